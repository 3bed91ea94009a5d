/- The contracts of KnownOk, of the program and of the model: at most 200 right keys that rise. -/
import Derived.Test.YtgddobdpibnkeaaPart0
import Derived.OpenShut
namespace Go.Proofs.Ytgddobdpibnkeaa
open Go.RowKit

def kAt (ks : List (Int × Int)) (i : Nat) : Int × Int := ks.getD i (0, 0)
theorem kAt_get (ks : List (Int × Int)) (i : Nat) (h : i < ks.length) : kAt ks i = ks[i] := by simp [kAt, h]
def okAt (ks : List (Int × Int)) (i : Nat) : Bool := okK (kAt ks i).1 (kAt ks i).2 && (decide (i = 0) || aheadB (kAt ks (i - 1)).1 (kAt ks (i - 1)).2 (kAt ks i).1 (kAt ks i).2)
def allTo (ks : List (Int × Int)) (m : Nat) : Bool := (List.range m).all (okAt ks)
theorem allTo_succ (ks : List (Int × Int)) (m : Nat) : allTo ks (m + 1) = (allTo ks m && okAt ks m) := by simp [allTo, List.range_succ]
theorem allTo_false {ks : List (Int × Int)} {m n : Nat} (h : okAt ks m = false) (hn : m < n) : allTo ks n = false := by
  simp only [allTo, List.all_eq_false]
  exact ⟨m, List.mem_range.2 hn, by simp [h]⟩
def knownB (ks : List (Int × Int)) : Bool := decide (ks.length ≤ 200) && allTo ks ks.length
theorem one_below (w : World) (o : Obj) : Below w.heap.size w (w.alloc o) := (Below.refl _ _).alloc (Nat.le_refl _) o
theorem l2Key_below (n v : Int) (w : World) :
    Calls Try.prog 136 #[kv n v] w fun e w' => e = .returned (.bool (okK n v)) ∧ Below w.heap.size w w' := (l2Key_any n v w).mono fun _ _ h => ⟨h.1, h.2 ▸ one_below _ _⟩
theorem keyOk_below (n v : Int) (w : World) :
    Calls Try.prog 49 #[kv n v] w fun e w' => e = .returned (.bool (okK n v)) ∧ Below w.heap.size w w' := (keyOk_any n v w).mono fun _ _ h => ⟨h.1, h.2 ▸ one_below _ _⟩
theorem specAheadK (a0 a1 b0 b1 : Int) (w : World) :
    Calls Try.prog 137 #[kv a0 a1, kv b0 b1] w fun e w' => e = .returned (.bool (aheadB a0 a1 b0 b1)) ∧ Below w.heap.size w w' :=
  (specAhead_any a0 a1 b0 b1 w).mono fun _ _ h => ⟨h.1, by rw [h.2]; exact ((Below.refl _ _).alloc (Nat.le_refl _) _).alloc (by simp) _⟩
theorem keyAheadK (a0 a1 b0 b1 : Int) (w : World) :
    Calls Try.prog 50 #[kv a0 a1, kv b0 b1] w fun e w' => e = .returned (.bool (aheadB a0 a1 b0 b1)) ∧ Below w.heap.size w w' :=
  (keyAhead_any a0 a1 b0 b1 w).mono fun _ _ h => ⟨h.1, by rw [h.2]; exact ((((Below.refl _ _).alloc (Nat.le_refl _) _).alloc (by simp) _).alloc (by simp; omega) _).alloc (by simp; omega) _⟩

theorem specKnownOk_none (a : Option Addr) (c : Nat) (w : World) :
    Calls Try.prog 100 #[.slice a 0 c] w fun e w' => e = .returned (.bool true) ∧ w' = w := by
  go_enter Try.func100, Try.ntmps100
  go_wp2
  refine wp_loop_rounds 1 ?_
  rw [rounds_succ]
  go_wp2
  go_ret
  exact ⟨by simp, rfl⟩

set_option maxHeartbeats 1000000 in
theorem specKnownOk_row (g c : Nat) (ks : List (Int × Int)) (w : World) (hm : ks.length ≤ maxLen) (hg : g < w.heap.size) (h1 : KSeg g 0 ks w) :
    Calls Try.prog 100 #[.slice (some ⟨g, 0, none⟩) ks.length c] w fun e w' => e = .returned (.bool (knownB ks)) ∧ Below w.heap.size w w' := by
  unfold maxLen at hm
  generalize hn : ks.length = n at hm ⊢
  go_enter Try.func100, Try.ntmps100
  go_wp2
  go_loopw [3] (fun i wr => ∃ k : Nat, k ≤ n ∧ i = .int .i64 k ∧ allTo ks k = true ∧ Below w.heap.size w wr) (fun i _ => n - (intOf i).toNat)
  case atStart => exact ⟨0, Nat.zero_le _, rfl, rfl, Below.refl _ _⟩
  case round =>
    obtain ⟨k, hk, rfl, hpre, hB⟩ := hrel
    have HP : Hid (allTo ks k = true) := hpre
    have H1 : Hid (KSeg g 0 ks w) := h1
    clear hpre h1
    by_cases hlt : k < n
    · have hlk : k < ks.length := by omega
      obtain ⟨a1, a2⟩ := H1.out k hlk
      simp only [Nat.zero_add] at a1 a2
      have c1 : wr.cell? ⟨g, k * 2, none⟩ = some (.int .i64 ks[k].1) := (hB.cell (p := ⟨g, k * 2, none⟩) hg).trans a1
      have c2 : wr.cell? ⟨g, k * 2 + 1, none⟩ = some (.int .i64 ks[k].2) := (hB.cell (p := ⟨g, k * 2 + 1, none⟩) hg).trans a2
      have hsz := hB.size
      clear a1 a2
      have HO : Hid (okAt ks k = (okK ks[k].1 ks[k].2 && (decide (k = 0) || aheadB (kAt ks (k - 1)).1 (kAt ks (k - 1)).2 ks[k].1 ks[k].2))) := by
        show okAt ks k = _
        unfold okAt; rw [kAt_get ks k hlk]
      generalize ks[k].1 = x1 at c1 HO
      generalize ks[k].2 = x2 at c2 HO
      cases hok : okK x1 x2 with
      | false =>
        go_wp2
        have hS0 : Cs2 w ⟨g, k * 2, none⟩ (.int .i64 x1) ⟨g, k * 2 + 1, none⟩ (.int .i64 x2) wr.drew := ⟨c1, c2, hB.drew⟩
        have hSN := SW.some hS0
        have hS1 := fun s : SW (Cs2 w ⟨g, k * 2, none⟩ (.int .i64 x1) ⟨g, k * 2 + 1, none⟩ (.int .i64 x2)) => s.is.1
        have hS2 := fun s : SW (Cs2 w ⟨g, k * 2, none⟩ (.int .i64 x1) ⟨g, k * 2 + 1, none⟩ (.int .i64 x2)) => s.is.2.1
        refine wp_region_S (Cs2 w ⟨g, k * 2, none⟩ (.int .i64 x1) ⟨g, k * 2 + 1, none⟩ (.int .i64 x2)) (by kernel_rfl) (by kernel_rfl) hS0 ?_
        repeat (go_big_quiet_step ((rename_i s0; go_at_call 136; refine (l2Key_below x1 x2 _).mono ?_; rintro e w' ⟨rfl, hb⟩; rw [hok]; exact ⟨rfl, SW.of (s0.is.later hb)⟩)))
        refine wpQuiet_nil ?_
        rintro _ ⟨s, rfl⟩
        have hBf := s.is.2.2
        clear hS0 hSN hS1 hS2 c1 c2
        go_wp2
        go_ret
        refine ⟨?_, hBf⟩
        have hno : okAt ks k = false := by rw [HO.out, hok]; rfl
        have : knownB ks = false := by unfold knownB; rw [allTo_false hno hlk]; simp
        show Ending.returned (.bool false) = _
        rw [this]
      | true =>
        by_cases hk0 : k = 0
        · subst hk0
          go_wp2
          have hS0 : Cs2 w ⟨g, 0, none⟩ (.int .i64 x1) ⟨g, 1, none⟩ (.int .i64 x2) wr.drew := ⟨by simpa using c1, by simpa using c2, hB.drew⟩
          have hSN := SW.some hS0
          have hS1 := fun s : SW (Cs2 w ⟨g, 0, none⟩ (.int .i64 x1) ⟨g, 1, none⟩ (.int .i64 x2)) => s.is.1
          have hS2 := fun s : SW (Cs2 w ⟨g, 0, none⟩ (.int .i64 x1) ⟨g, 1, none⟩ (.int .i64 x2)) => s.is.2.1
          refine wp_region_S (Cs2 w ⟨g, 0, none⟩ (.int .i64 x1) ⟨g, 1, none⟩ (.int .i64 x2)) (by kernel_rfl) (by kernel_rfl) hS0 ?_
          repeat (go_big_quiet_step ((rename_i s0; go_at_call 136; refine (l2Key_below x1 x2 _).mono ?_; rintro e w' ⟨rfl, hb⟩; rw [hok]; exact ⟨rfl, SW.of (s0.is.later hb)⟩)))
          refine wpQuiet_nil ?_
          rintro _ ⟨s, rfl⟩
          have hBf := s.is.2.2
          clear hS0 hSN hS1 hS2 c1 c2
          have HA : Hid (allTo ks 1 = true) := by
            show allTo ks 1 = true
            rw [allTo_succ, HP.out, HO.out, hok]; rfl
          go_wp2
          go_roundw
          case rel => exact ⟨1, by omega, by go_num, HA.out, hBf⟩
          case measure => simp [intOf]; omega
        · have hkp : k - 1 < ks.length := by omega
          obtain ⟨a1, a2⟩ := H1.out (k - 1) hkp
          simp only [Nat.zero_add] at a1 a2
          have d1 : wr.cell? ⟨g, (k - 1) * 2, none⟩ = some (.int .i64 ks[k - 1].1) := (hB.cell (p := ⟨g, (k - 1) * 2, none⟩) hg).trans a1
          have d2 : wr.cell? ⟨g, (k - 1) * 2 + 1, none⟩ = some (.int .i64 ks[k - 1].2) := (hB.cell (p := ⟨g, (k - 1) * 2 + 1, none⟩) hg).trans a2
          clear a1 a2
          have HO2 : Hid (okAt ks k = (okK x1 x2 && (decide (k = 0) || aheadB ks[k - 1].1 ks[k - 1].2 x1 x2))) := by
            show okAt ks k = _
            rw [HO.out, kAt_get ks (k - 1) hkp]
          generalize ks[k - 1].1 = y1 at d1 HO2
          generalize ks[k - 1].2 = y2 at d2 HO2
          have hkn : 0 < k := by omega
          go_wp2
          have hS0 : Cs4 w ⟨g, k * 2, none⟩ (.int .i64 x1) ⟨g, k * 2 + 1, none⟩ (.int .i64 x2) ⟨g, (k - 1) * 2, none⟩ (.int .i64 y1) ⟨g, (k - 1) * 2 + 1, none⟩ (.int .i64 y2) wr.drew := ⟨c1, c2, d1, d2, hB.drew⟩
          have hSN := SW.some hS0
          have hS1 := fun s : SW (Cs4 w ⟨g, k * 2, none⟩ (.int .i64 x1) ⟨g, k * 2 + 1, none⟩ (.int .i64 x2) ⟨g, (k - 1) * 2, none⟩ (.int .i64 y1) ⟨g, (k - 1) * 2 + 1, none⟩ (.int .i64 y2)) => s.is.1
          have hS2 := fun s : SW (Cs4 w ⟨g, k * 2, none⟩ (.int .i64 x1) ⟨g, k * 2 + 1, none⟩ (.int .i64 x2) ⟨g, (k - 1) * 2, none⟩ (.int .i64 y1) ⟨g, (k - 1) * 2 + 1, none⟩ (.int .i64 y2)) => s.is.2.1
          have hS3 := fun s : SW (Cs4 w ⟨g, k * 2, none⟩ (.int .i64 x1) ⟨g, k * 2 + 1, none⟩ (.int .i64 x2) ⟨g, (k - 1) * 2, none⟩ (.int .i64 y1) ⟨g, (k - 1) * 2 + 1, none⟩ (.int .i64 y2)) => s.is.2.2.1
          have hS4 := fun s : SW (Cs4 w ⟨g, k * 2, none⟩ (.int .i64 x1) ⟨g, k * 2 + 1, none⟩ (.int .i64 x2) ⟨g, (k - 1) * 2, none⟩ (.int .i64 y1) ⟨g, (k - 1) * 2 + 1, none⟩ (.int .i64 y2)) => s.is.2.2.2.1
          refine wp_region_S (Cs4 w ⟨g, k * 2, none⟩ (.int .i64 x1) ⟨g, k * 2 + 1, none⟩ (.int .i64 x2) ⟨g, (k - 1) * 2, none⟩ (.int .i64 y1) ⟨g, (k - 1) * 2 + 1, none⟩ (.int .i64 y2)) (by kernel_rfl) (by kernel_rfl) hS0 ?_
          repeat (go_big_quiet_step ((rename_i s0; first | (go_at_call 136; refine (l2Key_below x1 x2 _).mono ?_; rintro e w' ⟨rfl, hb⟩; rw [hok]; exact ⟨rfl, SW.of (s0.is.later hb)⟩) | (go_at_call 137; refine (specAheadK y1 y2 x1 x2 _).mono ?_; rintro e w' ⟨rfl, hb⟩; exact ⟨rfl, SW.of (s0.is.later hb)⟩))))
          refine wpQuiet_nil ?_
          rintro _ ⟨s, rfl⟩
          have hBf := s.is.2.2.2.2
          clear hS0 hSN hS1 hS2 hS3 hS4 c1 c2 d1 d2
          cases hah : aheadB y1 y2 x1 x2 with
          | true =>
            have HA : Hid (allTo ks (k + 1) = true) := by
              show allTo ks (k + 1) = true
              rw [allTo_succ, HP.out, HO2.out, hok, hah]; simp
            go_wp2
            go_roundw
            case rel => exact ⟨k + 1, by omega, by go_num, HA.out, hBf⟩
            case measure => simp [intOf]; omega
          | false =>
            go_wp2
            go_ret
            refine ⟨?_, hBf⟩
            have hno : okAt ks k = false := by rw [HO2.out, hok, hah]; simp [hk0]
            have : knownB ks = false := by unfold knownB; rw [allTo_false hno hlk]; simp
            show Ending.returned (.bool false) = _
            rw [this]
    · have hke : k = n := by omega
      have hkb : knownB ks = decide (n ≤ 200) := by unfold knownB; rw [hn, ← hke, HP.out]; simp
      have HKB : Hid _ := hkb
      clear hkb
      go_wp2
      go_ret
      refine ⟨?_, hB⟩
      rw [HKB.out]
      have e : decide ((n : Int) ≤ 200) = decide (n ≤ 200) := by rw [decide_eq_decide]; omega
      rw [← e]
      rfl
end Go.Proofs.Ytgddobdpibnkeaa
/- The contract of KnownOk of the program. -/
namespace Go.Proofs.Ytgddobdpibnkeaa
open Go.RowKit

set_option maxHeartbeats 1000000 in
theorem knownOk_row (g c : Nat) (ks : List (Int × Int)) (w : World) (hm : ks.length ≤ maxLen) (hg : g < w.heap.size) (h1 : KSeg g 0 ks w) :
    Calls Try.prog 17 #[.slice (some ⟨g, 0, none⟩) ks.length c] w fun e w' => e = .returned (.bool (knownB ks)) ∧ Below w.heap.size w w' := by
  unfold maxLen at hm
  generalize hn : ks.length = n at hm ⊢
  by_cases h200 : (200 : Int) < (n : Int)
  · have hkf : knownB ks = false := by unfold knownB; rw [hn, decide_eq_false (by omega)]; rfl
    rw [hkf]
    go_enter Try.func17, Try.ntmps17
    go_wp2
    go_ret
    exact ⟨rfl, Below.refl _ _⟩
  go_enter Try.func17, Try.ntmps17
  go_wp2
  go_loopw [10] (fun i wr => ∃ k : Nat, k ≤ n ∧ i = .int .i64 k ∧ allTo ks k = true ∧ Below w.heap.size w wr) (fun i _ => n - (intOf i).toNat)
  case atStart => exact ⟨0, Nat.zero_le _, rfl, rfl, Below.refl _ _⟩
  case round =>
    obtain ⟨k, hk, rfl, hpre, hB⟩ := hrel
    have HP : Hid (allTo ks k = true) := hpre
    have H1 : Hid (KSeg g 0 ks w) := h1
    clear hpre h1
    by_cases hlt : k < n
    · have hlk : k < ks.length := by omega
      obtain ⟨a1, a2⟩ := H1.out k hlk
      simp only [Nat.zero_add] at a1 a2
      have c1 : wr.cell? ⟨g, k * 2, none⟩ = some (.int .i64 ks[k].1) := (hB.cell (p := ⟨g, k * 2, none⟩) hg).trans a1
      have c2 : wr.cell? ⟨g, k * 2 + 1, none⟩ = some (.int .i64 ks[k].2) := (hB.cell (p := ⟨g, k * 2 + 1, none⟩) hg).trans a2
      have hsz := hB.size
      clear a1 a2
      have HO : Hid (okAt ks k = (okK ks[k].1 ks[k].2 && (decide (k = 0) || aheadB (kAt ks (k - 1)).1 (kAt ks (k - 1)).2 ks[k].1 ks[k].2))) := by
        show okAt ks k = _
        unfold okAt; rw [kAt_get ks k hlk]
      generalize ks[k].1 = x1 at c1 HO
      generalize ks[k].2 = x2 at c2 HO
      have b1 : (wr.alloc (kb x1 x2)).cell? ⟨wr.heap.size, 0, none⟩ = some (.int .i64 x1) := by simp
      have b2 : (wr.alloc (kb x1 x2)).cell? ⟨wr.heap.size, 1, none⟩ = some (.int .i64 x2) := by simp
      have hBa : Below w.heap.size w (wr.alloc (kb x1 x2)) := hB.alloc hsz _
      cases hok : okK x1 x2 with
      | false =>
        go_wp2
        have hS0 : Cs2 w ⟨wr.heap.size, 0, none⟩ (.int .i64 x1) ⟨wr.heap.size, 1, none⟩ (.int .i64 x2) (wr.alloc (kb x1 x2)).drew := ⟨b1, b2, hBa.drew⟩
        have hSN := SW.some hS0
        have hS1 := fun s : SW (Cs2 w ⟨wr.heap.size, 0, none⟩ (.int .i64 x1) ⟨wr.heap.size, 1, none⟩ (.int .i64 x2)) => s.is.1
        have hS2 := fun s : SW (Cs2 w ⟨wr.heap.size, 0, none⟩ (.int .i64 x1) ⟨wr.heap.size, 1, none⟩ (.int .i64 x2)) => s.is.2.1
        refine wp_region_S (Cs2 w ⟨wr.heap.size, 0, none⟩ (.int .i64 x1) ⟨wr.heap.size, 1, none⟩ (.int .i64 x2)) (by kernel_rfl) (by kernel_rfl) hS0 ?_
        repeat (go_big_quiet_step ((rename_i s0; go_at_call 49; refine (keyOk_below x1 x2 _).mono ?_; rintro e w' ⟨rfl, hb⟩; rw [hok]; exact ⟨rfl, SW.of (s0.is.later hb)⟩)))
        refine wpQuiet_nil ?_
        rintro _ ⟨s, rfl⟩
        have hBf := s.is.2.2
        clear hS0 hSN hS1 hS2 c1 c2 b1 b2 hBa
        go_wp2
        go_ret
        refine ⟨?_, hBf⟩
        have hno : okAt ks k = false := by rw [HO.out, hok]; rfl
        have : knownB ks = false := by unfold knownB; rw [allTo_false hno hlk]; simp
        show Ending.returned (.bool false) = _
        rw [this]
      | true =>
        by_cases hk0 : k = 0
        · subst hk0
          simp only [Nat.zero_mul, Nat.zero_add] at c1 c2
          go_wp2
          have hS0 : Cs2 w ⟨wr.heap.size, 0, none⟩ (.int .i64 x1) ⟨wr.heap.size, 1, none⟩ (.int .i64 x2) (wr.alloc (kb x1 x2)).drew := ⟨b1, b2, hBa.drew⟩
          have hSN := SW.some hS0
          have hS1 := fun s : SW (Cs2 w ⟨wr.heap.size, 0, none⟩ (.int .i64 x1) ⟨wr.heap.size, 1, none⟩ (.int .i64 x2)) => s.is.1
          have hS2 := fun s : SW (Cs2 w ⟨wr.heap.size, 0, none⟩ (.int .i64 x1) ⟨wr.heap.size, 1, none⟩ (.int .i64 x2)) => s.is.2.1
          refine wp_region_S (Cs2 w ⟨wr.heap.size, 0, none⟩ (.int .i64 x1) ⟨wr.heap.size, 1, none⟩ (.int .i64 x2)) (by kernel_rfl) (by kernel_rfl) hS0 ?_
          repeat (go_big_quiet_step ((rename_i s0; go_at_call 49; refine (keyOk_below x1 x2 _).mono ?_; rintro e w' ⟨rfl, hb⟩; rw [hok]; exact ⟨rfl, SW.of (s0.is.later hb)⟩)))
          refine wpQuiet_nil ?_
          rintro _ ⟨s, rfl⟩
          have hBf := s.is.2.2
          clear hS0 hSN hS1 hS2 c1 c2 b1 b2 hBa
          have HA : Hid (allTo ks 1 = true) := by
            show allTo ks 1 = true
            rw [allTo_succ, HP.out, HO.out, hok]; rfl
          go_wp2
          go_roundw
          case rel => exact ⟨1, by omega, by go_num, HA.out, hBf⟩
          case measure => simp [intOf]; omega
        · have hkp : k - 1 < ks.length := by omega
          obtain ⟨a1, a2⟩ := H1.out (k - 1) hkp
          simp only [Nat.zero_add] at a1 a2
          have d1 : wr.cell? ⟨g, (k - 1) * 2, none⟩ = some (.int .i64 ks[k - 1].1) := (hB.cell (p := ⟨g, (k - 1) * 2, none⟩) hg).trans a1
          have d2 : wr.cell? ⟨g, (k - 1) * 2 + 1, none⟩ = some (.int .i64 ks[k - 1].2) := (hB.cell (p := ⟨g, (k - 1) * 2 + 1, none⟩) hg).trans a2
          clear a1 a2
          have HO2 : Hid (okAt ks k = (okK x1 x2 && (decide (k = 0) || aheadB ks[k - 1].1 ks[k - 1].2 x1 x2))) := by
            show okAt ks k = _
            rw [HO.out, kAt_get ks (k - 1) hkp]
          generalize ks[k - 1].1 = y1 at d1 HO2
          generalize ks[k - 1].2 = y2 at d2 HO2
          have hkn : 0 < k := by omega
          have f1 := cell_since d1 (one_below wr (kb x1 x2))
          have f2 := cell_since d2 (one_below wr (kb x1 x2))
          go_wp2
          have hS0 : Cs4 w ⟨wr.heap.size, 0, none⟩ (.int .i64 x1) ⟨wr.heap.size, 1, none⟩ (.int .i64 x2) ⟨g, (k - 1) * 2, none⟩ (.int .i64 y1) ⟨g, (k - 1) * 2 + 1, none⟩ (.int .i64 y2) (wr.alloc (kb x1 x2)).drew := ⟨b1, b2, f1, f2, hBa.drew⟩
          have hSN := SW.some hS0
          have hS1 := fun s : SW (Cs4 w ⟨wr.heap.size, 0, none⟩ (.int .i64 x1) ⟨wr.heap.size, 1, none⟩ (.int .i64 x2) ⟨g, (k - 1) * 2, none⟩ (.int .i64 y1) ⟨g, (k - 1) * 2 + 1, none⟩ (.int .i64 y2)) => s.is.1
          have hS2 := fun s : SW (Cs4 w ⟨wr.heap.size, 0, none⟩ (.int .i64 x1) ⟨wr.heap.size, 1, none⟩ (.int .i64 x2) ⟨g, (k - 1) * 2, none⟩ (.int .i64 y1) ⟨g, (k - 1) * 2 + 1, none⟩ (.int .i64 y2)) => s.is.2.1
          have hS3 := fun s : SW (Cs4 w ⟨wr.heap.size, 0, none⟩ (.int .i64 x1) ⟨wr.heap.size, 1, none⟩ (.int .i64 x2) ⟨g, (k - 1) * 2, none⟩ (.int .i64 y1) ⟨g, (k - 1) * 2 + 1, none⟩ (.int .i64 y2)) => s.is.2.2.1
          have hS4 := fun s : SW (Cs4 w ⟨wr.heap.size, 0, none⟩ (.int .i64 x1) ⟨wr.heap.size, 1, none⟩ (.int .i64 x2) ⟨g, (k - 1) * 2, none⟩ (.int .i64 y1) ⟨g, (k - 1) * 2 + 1, none⟩ (.int .i64 y2)) => s.is.2.2.2.1
          refine wp_region_S (Cs4 w ⟨wr.heap.size, 0, none⟩ (.int .i64 x1) ⟨wr.heap.size, 1, none⟩ (.int .i64 x2) ⟨g, (k - 1) * 2, none⟩ (.int .i64 y1) ⟨g, (k - 1) * 2 + 1, none⟩ (.int .i64 y2)) (by kernel_rfl) (by kernel_rfl) hS0 ?_
          repeat (go_big_quiet_step ((rename_i s0; first | (go_at_call 49; refine (keyOk_below x1 x2 _).mono ?_; rintro e w' ⟨rfl, hb⟩; rw [hok]; exact ⟨rfl, SW.of (s0.is.later hb)⟩) | (go_at_call 50; refine (keyAheadK y1 y2 x1 x2 _).mono ?_; rintro e w' ⟨rfl, hb⟩; exact ⟨rfl, SW.of (s0.is.later hb)⟩))))
          refine wpQuiet_nil ?_
          rintro _ ⟨s, rfl⟩
          have hBf := s.is.2.2.2.2
          clear hS0 hSN hS1 hS2 hS3 hS4 c1 c2 d1 d2 b1 b2 f1 f2 hBa
          cases hah : aheadB y1 y2 x1 x2 with
          | true =>
            have HA : Hid (allTo ks (k + 1) = true) := by
              show allTo ks (k + 1) = true
              rw [allTo_succ, HP.out, HO2.out, hok, hah]; simp
            go_wp2
            go_roundw
            case rel => exact ⟨k + 1, by omega, by go_num, HA.out, hBf⟩
            case measure => simp [intOf]; omega
          | false =>
            go_wp2
            go_ret
            refine ⟨?_, hBf⟩
            have hno : okAt ks k = false := by rw [HO2.out, hok, hah]; simp [hk0]
            have : knownB ks = false := by unfold knownB; rw [allTo_false hno hlk]; simp
            show Ending.returned (.bool false) = _
            rw [this]
    · have hke : k = n := by omega
      have hkb : knownB ks = true := by unfold knownB; rw [hn, ← hke, HP.out, decide_eq_true (by omega)]; rfl
      have HKB : Hid _ := hkb
      clear hkb
      go_wp2
      go_ret
      refine ⟨?_, hB⟩
      rw [HKB.out]
      rfl

theorem knownOk_none (a : Option Addr) (c : Nat) (w : World) :
    Calls Try.prog 17 #[.slice a 0 c] w fun e w' => e = .returned (.bool true) ∧ w' = w := by
  go_enter Try.func17, Try.ntmps17
  go_wp2
  refine wp_loop_rounds 1 ?_
  rw [rounds_succ]
  go_wp2
  go_ret
  exact ⟨by simp, rfl⟩

/-- KnownOk of the model, of keys wherever they lie. -/
theorem specKnownOk_any {B : Nat} {v : Value} {ks : List (Int × Int)} {w : World} (h : Keys B v ks w) :
    Calls Try.prog 100 #[v] w fun e w' => e = .returned (.bool (knownB ks)) ∧ Below w.heap.size w w' := by
  rcases h.form with ⟨rfl, rfl⟩ | ⟨g, cap, rfl, _, g1, h1, h2, h3, _⟩
  · exact (specKnownOk_none _ _ w).mono fun _ _ h => ⟨h.1, h.2 ▸ Below.refl _ _⟩
  · exact specKnownOk_row g cap ks w (by omega) g1 h3
theorem knownOk_any {B : Nat} {v : Value} {ks : List (Int × Int)} {w : World} (h : Keys B v ks w) :
    Calls Try.prog 17 #[v] w fun e w' => e = .returned (.bool (knownB ks)) ∧ Below w.heap.size w w' := by
  rcases h.form with ⟨rfl, rfl⟩ | ⟨g, cap, rfl, _, g1, h1, h2, h3, _⟩
  · exact (knownOk_none _ _ w).mono fun _ _ h => ⟨h.1, h.2 ▸ Below.refl _ _⟩
  · exact knownOk_row g cap ks w (by omega) g1 h3
end Go.Proofs.Ytgddobdpibnkeaa
/- The contracts of MemberOk, of the program and of the model: an Id 1 .. 20, an Epoch 0 .. 10^9, known keys, no two of one node. -/
namespace Go.Proofs.Ytgddobdpibnkeaa
open Go.RowKit

theorem more {w W W' : World} (h : Below w.heap.size w W) (hb : Below W.heap.size W W') : Below w.heap.size w W' := h.trans (hb.mono h.size)
abbrev mv (id ep : Int) (v : Value) : Value := .agg #[.int .i64 id, .int .i64 ep, v]

theorem isMember_any (n : Int) (w : World) :
    Calls Try.prog 58 #[.int .i64 n] w fun e w' => e = .returned (.bool (decide (1 ≤ n ∧ n ≤ 20))) ∧ w' = w := by
  by_cases h1 : 1 ≤ n
  · by_cases h2 : n ≤ 20
    · rw [decide_eq_true ⟨h1, h2⟩]
      go_enter Try.func58, Try.ntmps58
      go_wp2
      go_ret
      exact ⟨by simp, rfl⟩
    · rw [decide_eq_false (fun h => h2 h.2)]
      go_enter Try.func58, Try.ntmps58
      go_wp2
      go_ret
      exact ⟨by simp, rfl⟩
  · rw [decide_eq_false (fun h => h1 h.1)]
    go_enter Try.func58, Try.ntmps58
    go_wp2
    go_ret
    exact ⟨rfl, rfl⟩
theorem epochOk_any (n : Int) (w : World) :
    Calls Try.prog 59 #[.int .i64 n] w fun e w' => e = .returned (.bool (decide (0 ≤ n ∧ n ≤ 1000000000))) ∧ w' = w := by
  by_cases h1 : 0 ≤ n
  · by_cases h2 : n ≤ 1000000000
    · rw [decide_eq_true ⟨h1, h2⟩]
      go_enter Try.func59, Try.ntmps59
      go_wp2
      go_ret
      exact ⟨by simp, rfl⟩
    · rw [decide_eq_false (fun h => h2 h.2)]
      go_enter Try.func59, Try.ntmps59
      go_wp2
      go_ret
      exact ⟨by simp, rfl⟩
  · rw [decide_eq_false (fun h => h1 h.1)]
    go_enter Try.func59, Try.ntmps59
    go_wp2
    go_ret
    exact ⟨rfl, rfl⟩

/-- Keys ahead of place m: no two neighbours of one node. -/
def nodeAt (ks : List (Int × Int)) (i : Nat) : Bool := decide (i = 0) || !decide ((kAt ks (i - 1)).1 = (kAt ks i).1)
def nodesTo (ks : List (Int × Int)) (m : Nat) : Bool := (List.range m).all (nodeAt ks)
theorem nodesTo_succ (ks : List (Int × Int)) (m : Nat) : nodesTo ks (m + 1) = (nodesTo ks m && nodeAt ks m) := by simp [nodesTo, List.range_succ]
theorem nodesTo_false {ks : List (Int × Int)} {m n : Nat} (h : nodeAt ks m = false) (hn : m < n) : nodesTo ks n = false := by
  simp only [nodesTo, List.all_eq_false]
  exact ⟨m, List.mem_range.2 hn, by simp [h]⟩
def headB (id ep : Int) (ks : List (Int × Int)) : Bool := decide (1 ≤ id ∧ id ≤ 20) && (decide (0 ≤ ep ∧ ep ≤ 1000000000) && knownB ks)
def memberB (id ep : Int) (ks : List (Int × Int)) : Bool := headB id ep ks && nodesTo ks ks.length

/-- Keys, as an argument: none, or a row. -/
def KRow (a : Option Addr) (ks : List (Int × Int)) (w : World) : Prop := ks = [] ∨ ∃ g, a = some ⟨g, 0, none⟩ ∧ g < w.heap.size ∧ KSeg g 0 ks w
theorem Keys.row {B : Nat} {v : Value} {ks : List (Int × Int)} {w : World} (h : Keys B v ks w) : ∃ a c, v = .slice a ks.length c ∧ ks.length ≤ maxLen ∧ KRow a ks w := by
  rcases h.form with ⟨rfl, rfl⟩ | ⟨g, cap, rfl, _, g1, h1, h2, h3, _⟩
  · exact ⟨_, _, rfl, Nat.zero_le _, .inl rfl⟩
  · exact ⟨_, _, rfl, by omega, .inr ⟨g, rfl, g1, h3⟩⟩
end Go.Proofs.Ytgddobdpibnkeaa
/- Lists of numbers: what the exact laws' helpers do that lay them anew: toInt64S, szInt64S. -/
namespace Go.Proofs.Ytgddobdpibnkeaa
open Go.RowKit

theorem infoI : (Try.prog.info? 2).map (fun i => (i.zero, i.size, i.bytes)) = some (some (.int .i64 0), 1, 8) := by kernel_rfl
/-- Numbers lie in block b from offset 'off' on. -/
def ISeg (b off : Nat) (xs : List Int) (W : World) : Prop := ∀ i (hi : i < xs.length), W.cell? ⟨b, off + i, none⟩ = some (.int .i64 xs[i])
theorem ISeg.kept {b off : Nat} {xs : List Int} {W W' : World} (h : ISeg b off xs W) (hb : W'.heap[b]? = W.heap[b]?) : ISeg b off xs W' := fun i hi =>
  (World.cell?_of_block (a := ⟨b, off + i, none⟩) hb).trans (h i hi)
def IRow (a : Option Addr) (xs : List Int) (w : World) : Prop := xs = [] ∨ ∃ g, a = some ⟨g, 0, none⟩ ∧ g < w.heap.size ∧ ISeg g 0 xs w
theorem Ints.row {B : Nat} {v : Value} {xs : List Int} {w : World} (h : Ints B v xs w) : ∃ a c, v = .slice a xs.length c ∧ xs.length ≤ maxLen ∧ IRow a xs w := by
  rcases h.form with ⟨rfl, rfl⟩ | ⟨g, cap, rfl, _, g1, h1, h2, h3⟩
  · exact ⟨_, _, rfl, Nat.zero_le _, .inl rfl⟩
  · exact ⟨_, _, rfl, by omega, .inr ⟨g, rfl, g1, fun i hi => by rw [Nat.zero_add]; exact (h3 i hi).1⟩⟩
theorem Seats.row {B : Nat} {v : Value} {ks : List (Int × Int)} {w : World} (h : Seats B v ks w) : ∃ a c, v = .slice a ks.length c ∧ ks.length ≤ maxLen ∧ KRow a ks w := by
  rcases h.form with ⟨rfl, rfl⟩ | ⟨g, cap, rfl, _, g1, h1, h2, h3, _⟩
  · exact ⟨_, _, rfl, Nat.zero_le _, .inl rfl⟩
  · exact ⟨_, _, rfl, by omega, .inr ⟨g, rfl, g1, h3⟩⟩
theorem Ints.since {B : Nat} {v : Value} {xs : List Int} {W W' : World} (h : Ints B v xs W) (hb : Below W.heap.size W W') : Ints B v xs W' := h.below hb (fun k e => (h.lt k e).2)
theorem Seats.since {B : Nat} {v : Value} {ks : List (Int × Int)} {W W' : World} (h : Seats B v ks W) (hb : Below W.heap.size W W') : Seats B v ks W' := h.below hb (fun k e => (h.lt k e).2)

theorem szInt64S_any (a : Option Addr) (n c : Nat) (l : Int) (w : World) (hl : 0 ≤ l) (hl2 : l ≤ 1048576) (hn : n ≤ maxLen) :
    Calls Try.prog 104 #[.slice a n c, .int .i64 l] w fun e w' => e = .returned (.int .i64 (if l - (n : Int) < 0 then -1 else l - (n : Int))) ∧ w' = w := by
  unfold maxLen at hn
  by_cases h : l - (n : Int) < 0
  · rw [if_pos h]
    go_enter Try.func104, Try.ntmps104
    go_wp2
    go_ret
    exact ⟨rfl, rfl⟩
  · rw [if_neg h]
    go_enter Try.func104, Try.ntmps104
    go_wp2
    go_ret
    exact ⟨rfl, rfl⟩

def partInts (xs : List Int) (i : Nat) : List Int := xs.take i ++ List.replicate (xs.length - i) 0
theorem partInts_length (xs : List Int) (i : Nat) (h : i ≤ xs.length) : (partInts xs i).length = xs.length := by simp [partInts]; omega
theorem partInts_set (xs : List Int) (i : Nat) (h : i < xs.length) : (partInts xs i).set i xs[i] = partInts xs (i + 1) := by
  unfold partInts
  have e : xs.length - i = (xs.length - (i + 1)) + 1 := by omega
  have hl : (xs.take i).length = i := by simp; omega
  rw [e, List.replicate_succ, List.take_succ_eq_append_getElem h, List.append_assoc, List.set_append_right _ _ (by omega), hl, Nat.sub_self, List.set_cons_zero]
  rfl
theorem Ints.stored {B g cap : Nat} {l : List Int} {n : Nat} {W : World} (hn : l.length = n) (h : Ints B (.slice (some ⟨g, 0, none⟩) n cap) l W) (i : Nat) (_ : i < l.length) (a : Int) :
    Ints B (.slice (some ⟨g, 0, none⟩) n cap) (l.set i a) (W.setCell ⟨g, i, none⟩ (.int .i64 a)) ∧ W.grownBy (W.setCell ⟨g, i, none⟩ (.int .i64 a)) (some g) := by
  subst hn
  have h1 := World.ownsRow.stored h i (.int .i64 a)
  refine ⟨?_, h1.2⟩
  unfold Ints
  rw [List.length_set, List.map_set]
  exact h1.1
theorem made_one (c : Value) (n : Nat) : (madeCells #[c] n).toList = List.replicate n c := by
  apply List.ext_getElem?
  intro j
  by_cases hj : j < n
  · simp [madeCells, hj, Nat.mod_one]
  · simp [madeCells, hj]

set_option maxRecDepth 100000 in
set_option maxHeartbeats 1000000 in
theorem toInt64S_row (b off c : Nat) (xs : List Int) (w : World) (hn : xs.length ≤ 1048576) (hb : b < w.heap.size) (hs : ISeg b off xs w) :
    Calls Try.prog 109 #[.slice (some ⟨b, off, none⟩) xs.length c] w fun e w' => ∃ v, e = .returned v ∧ v ≠ .slice none 0 0 ∧ Ints w.heap.size v xs w' ∧ Below w.heap.size w w' := by
  obtain ⟨i0, hi, hz0, hz1, hz2⟩ := info_parts infoI
  generalize hN : xs.length = N at hn ⊢
  go_enter Try.func109, Try.ntmps109
  go_wp2_with (at_make; refine wpList_make_full _ rfl _ _ 24 rfl w.heap.size 2 i0 _ 1 Try.underlying24 hi hz0 hz1 .i64 .i64 _ _ N rfl rfl rfl rfl (by rw [hz2]; omega) (by unfold maxLen; omega) (Nat.le_refl _) ?_; intro w0 hown0 hgrow0)
  have hK0 : Ints w.heap.size (.slice (some ⟨w.heap.size, 0, none⟩) N N) (partInts xs 0) w0 := by
    unfold Ints
    rw [partInts_length _ _ (Nat.zero_le _), hN]
    have e : partInts xs 0 = List.replicate N 0 := by simp [partInts, hN]
    rw [e, List.map_replicate, ← made_one]
    simpa [Value.cells] using hown0
  have hB0 : Below w.heap.size w w0 := below_grown hgrow0
  clear hown0
  go_loopw [4] (fun i wr => ∃ k : Nat, k ≤ N ∧ i = .int .i64 (k : Int) ∧ Hid (Ints w.heap.size (.slice (some ⟨w.heap.size, 0, none⟩) N N) (partInts xs k) wr) ∧ Below w.heap.size w wr) (fun i _ => N - (intOf i).toNat)
  case atStart => exact ⟨0, Nat.zero_le _, rfl, hK0, hB0⟩
  case round =>
    obtain ⟨k, hk, rfl, HK, hB⟩ := hrel
    clear hK0 hB0 hgrow0
    have HS : Hid (ISeg b off xs w) := hs
    clear hs
    by_cases hlt : k < N
    · have hkl : k < xs.length := by omega
      have d1 : wr.cell? ⟨b, off + k, none⟩ = some (.int .i64 xs[k]) := (hB.cell (p := ⟨b, off + k, none⟩) hb).trans (HS.out k hkl)
      have hpl : (partInts xs k).length = N := by rw [partInts_length _ _ (by omega), hN]
      obtain ⟨hst, hgr⟩ := HK.out.stored hpl k (by omega) xs[k]
      rw [partInts_set xs k hkl] at hst
      rcases HK.out.form with ⟨e, _⟩ | ⟨g, cap, e, _, _, _, _, hseg⟩
      · cases e
      simp only [Value.slice.injEq, Option.some.injEq, Addr.mk.injEq] at e
      obtain ⟨⟨rfl, -⟩, -, -⟩ := e
      obtain ⟨s1, f1⟩ := hseg k (by omega)
      obtain ⟨x1, s1⟩ : ∃ x1, wr.cell? ⟨w.heap.size, k, none⟩ = some x1 := ⟨_, s1⟩
      have HF : Hid (Ints w.heap.size (.slice (some ⟨w.heap.size, 0, none⟩) N N) (partInts xs (k + 1)) (wr.setCell ⟨w.heap.size, k, none⟩ (.int .i64 xs[k])) ∧ Below w.heap.size w (wr.setCell ⟨w.heap.size, k, none⟩ (.int .i64 xs[k]))) :=
        ⟨hst, hB.grown hgr hB.size (fun j e => by cases e; exact Nat.le_refl _)⟩
      clear hst hgr hseg HK hB
      generalize xs[k] = p at d1 HF
      go_wp2
      go_roundw
      case rel => exact ⟨k + 1, by omega, by go_num, HF.out.1, HF.out.2⟩
      case measure => simp [intOf]; omega
    · have : k = N := by omega
      subst this
      go_wp2
      go_ret
      refine ⟨_, rfl, by simp, ?_, hB⟩
      have e : partInts xs k = xs := by simp [partInts, ← hN]
      have := HK.out
      rwa [e] at this

/-- A list of numbers, as it came in. -/
def InInts (v : Value) (xs : List Int) (W : World) : Prop :=
  (∃ a c, v = .slice a 0 c ∧ xs = []) ∨ ∃ b off c, v = .slice (some ⟨b, off, none⟩) xs.length c ∧ b < W.heap.size ∧ xs.length ≤ maxLen ∧ ISeg b off xs W
theorem InInts.below {v : Value} {xs : List Int} {W W' : World} {C : Nat} (h : InInts v xs W) (hb : Below C W W') (hC : W.heap.size ≤ C) : InInts v xs W' := by
  rcases h with h | ⟨b, off, c, e, hl, hm, hs⟩
  · exact .inl h
  · exact .inr ⟨b, off, c, e, by have := hb.size; omega, hm, hs.kept (hb.block b (by omega))⟩
theorem InInts.len {v : Value} {xs : List Int} {W : World} (h : InInts v xs W) : ∃ a c, v = .slice a xs.length c ∧ xs.length ≤ maxLen := by
  rcases h with ⟨a, c, rfl, rfl⟩ | ⟨b, off, c, rfl, _, hm, _⟩
  · exact ⟨_, _, rfl, Nat.zero_le _⟩
  · exact ⟨_, _, rfl, hm⟩

theorem toInt64S_any (v : Value) (xs : List Int) (w : World) (h : InInts v xs w) (hn : xs.length ≤ 1048576) :
    Calls Try.prog 109 #[v] w fun e w' => ∃ v', e = .returned v' ∧ v' ≠ .slice none 0 0 ∧ Ints w.heap.size v' xs w' ∧ Below w.heap.size w w' := by
  rcases h with ⟨a, c, rfl, rfl⟩ | ⟨b, off, c, rfl, hl, hm, hs⟩
  · obtain ⟨i0, hi, hz0, hz1, hz2⟩ := info_parts infoI
    go_enter Try.func109, Try.ntmps109
    go_wp2_with (at_make; refine wpList_make_full _ rfl _ _ 24 rfl w.heap.size 2 i0 _ 1 Try.underlying24 hi hz0 hz1 .i64 .i64 _ _ 0 rfl rfl rfl rfl (by omega) (by unfold maxLen; omega) (Nat.le_refl _) ?_; intro w0 hown0 hgrow0)
    refine wp_loop_rounds 1 ?_
    rw [rounds_succ]
    go_wp2
    go_ret
    have e0 : (madeCells (Value.int .i64 0).cells (0 * 1)).toList = [] := by simp [madeCells]
    rw [e0] at hown0
    exact ⟨_, rfl, by simp, hown0, below_grown hgrow0⟩
  · exact toInt64S_row b off c xs w hn hl hs
end Go.Proofs.Ytgddobdpibnkeaa
/- When a server is right; versOk and seatsOk of the program. -/
namespace Go.Proofs.Ytgddobdpibnkeaa
open Go.RowKit

def vAt (xs : List Int) (i : Nat) : Int := xs.getD i 0
theorem vAt_get (xs : List Int) (i : Nat) (h : i < xs.length) : vAt xs i = xs[i] := by simp [vAt, h]
def verAt (xs : List Int) (i : Nat) : Bool := decide (1 ≤ vAt xs i ∧ vAt xs i ≤ 1000000000)
def versTo (xs : List Int) (m : Nat) : Bool := (List.range m).all (verAt xs)
theorem versTo_succ (xs : List Int) (m : Nat) : versTo xs (m + 1) = (versTo xs m && verAt xs m) := by simp [versTo, List.range_succ]
theorem versTo_false {xs : List Int} {m n : Nat} (h : verAt xs m = false) (hn : m < n) : versTo xs n = false := by
  simp only [versTo, List.all_eq_false]
  exact ⟨m, List.mem_range.2 hn, by simp [h]⟩
def versB (xs : List Int) : Bool := decide (xs.length = 15) && versTo xs xs.length

/-- Has one of the first m seats the leaf l? -/
def takenB (ss : List (Int × Int)) (m : Nat) (l : Int) : Bool := (List.range m).any fun k => decide ((kAt ss k).2 = l)
theorem takenB_succ (ss : List (Int × Int)) (m : Nat) (l : Int) : takenB ss (m + 1) l = (takenB ss m l || decide ((kAt ss m).2 = l)) := by simp [takenB, List.range_succ]
theorem takenB_true {ss : List (Int × Int)} {k m : Nat} {l : Int} (h : (kAt ss k).2 = l) (hk : k < m) : takenB ss m l = true := by
  simp only [takenB, List.any_eq_true]
  exact ⟨k, List.mem_range.2 hk, by simp [h]⟩
def seatAt (ss : List (Int × Int)) (i : Nat) : Bool :=
  decide (1 ≤ (kAt ss i).1 ∧ (kAt ss i).1 ≤ 20) && (decide (8 ≤ (kAt ss i).2 ∧ (kAt ss i).2 ≤ 15) && ((decide (i = 0) || decide ((kAt ss (i - 1)).1 < (kAt ss i).1)) && !takenB ss i (kAt ss i).2))
def seatsTo (ss : List (Int × Int)) (m : Nat) : Bool := (List.range m).all (seatAt ss)
theorem seatsTo_succ (ss : List (Int × Int)) (m : Nat) : seatsTo ss (m + 1) = (seatsTo ss m && seatAt ss m) := by simp [seatsTo, List.range_succ]
theorem seatsTo_false {ss : List (Int × Int)} {m n : Nat} (h : seatAt ss m = false) (hn : m < n) : seatsTo ss n = false := by
  simp only [seatsTo, List.all_eq_false]
  exact ⟨m, List.mem_range.2 hn, by simp [h]⟩
def seatsB (ss : List (Int × Int)) : Bool := decide (ss.length ≤ 8) && seatsTo ss ss.length
def serverB (ep : Int) (vs : List Int) (ss : List (Int × Int)) : Bool := decide (0 ≤ ep ∧ ep ≤ 1000000000) && (versB vs && seatsB ss)

theorem isLeaf_any (n : Int) (w : World) :
    Calls Try.prog 131 #[.int .i64 n] w fun e w' => e = .returned (.bool (decide (8 ≤ n ∧ n ≤ 15))) ∧ w' = w := by
  by_cases h1 : 8 ≤ n
  · by_cases h2 : n ≤ 15
    · rw [decide_eq_true ⟨h1, h2⟩]
      go_enter Try.func131, Try.ntmps131
      go_wp2
      go_ret
      exact ⟨by simp, rfl⟩
    · rw [decide_eq_false (fun h => h2 h.2)]
      go_enter Try.func131, Try.ntmps131
      go_wp2
      go_ret
      exact ⟨by simp, rfl⟩
  · rw [decide_eq_false (fun h => h1 h.1)]
    go_enter Try.func131, Try.ntmps131
    go_wp2
    go_ret
    exact ⟨rfl, rfl⟩

set_option maxHeartbeats 1000000 in
theorem versOk_any {B : Nat} {v : Value} {xs : List Int} {w : World} (h : Ints B v xs w) :
    Calls Try.prog 88 #[v] w fun e w' => e = .returned (.bool (versB xs)) ∧ w' = w := by
  obtain ⟨a, c, rfl, hm, hrow⟩ := h.row
  clear h
  by_cases hl : xs.length = 15
  · have hne : ((xs.length : Int) == 15) = true := by rw [hl]; rfl
    obtain ⟨g, rfl, hg, hseg⟩ : ∃ g, a = some ⟨g, 0, none⟩ ∧ g < w.heap.size ∧ ISeg g 0 xs w := by
      rcases hrow with e | e
      · rw [e] at hl; simp at hl
      · exact e
    have HV : Hid (versB xs = versTo xs 15) := by show versB xs = _; simp [versB, hl]
    have HS : Hid (ISeg g 0 xs w) := hseg
    clear hrow hseg hm
    rw [hl] at hne ⊢
    go_enter Try.func88, Try.ntmps88
    go_wp2
    go_loopw [10] (fun i wr => ∃ k : Nat, k ≤ 15 ∧ i = .int .i64 (k : Int) ∧ versTo xs k = true ∧ wr = w) (fun i _ => 15 - (intOf i).toNat)
    case atStart => exact ⟨0, by omega, rfl, rfl, rfl⟩
    case round =>
      obtain ⟨k, hk, rfl, hpre, rfl⟩ := hrel
      have HP : Hid (versTo xs k = true) := hpre
      clear hpre
      by_cases hlt : k < 15
      · have hlk : k < xs.length := by omega
        have c1 := HS.out k hlk
        rw [Nat.zero_add] at c1
        have HA : Hid (verAt xs k = decide (1 ≤ xs[k] ∧ xs[k] ≤ 1000000000)) := by show verAt xs k = _; unfold verAt; rw [vAt_get xs k hlk]
        generalize xs[k] = x at c1 HA
        by_cases h1 : 1 ≤ x
        · by_cases h2 : x ≤ 1000000000
          · have HF : Hid (versTo xs (k + 1) = true) := by show versTo xs (k + 1) = true; rw [versTo_succ, HP.out, HA.out]; simp [h1, h2]
            go_wp2
            go_roundw
            case rel => exact ⟨k + 1, by omega, by go_num, HF.out, by first | trivial | rfl⟩
            case measure => simp [intOf]; omega
          · have HF : Hid (versTo xs 15 = false) := versTo_false (m := k) (by rw [HA.out]; simp; omega) hlt
            go_wp2
            go_ret
            exact ⟨by rw [HV.out, HF.out]; rfl, rfl⟩
        · have HF : Hid (versTo xs 15 = false) := versTo_false (m := k) (by rw [HA.out]; simp; omega) hlt
          go_wp2
          go_ret
          exact ⟨by rw [HV.out, HF.out]; rfl, rfl⟩
      · have : k = 15 := by omega
        subst this
        go_wp2
        go_ret
        exact ⟨by rw [HV.out, HP.out]; rfl, rfl⟩
  · have hne : ((xs.length : Int) == 15) = false := by simp; omega
    have HV : Hid (versB xs = false) := by show versB xs = _; simp [versB, hl]
    generalize xs.length = n at *
    go_enter Try.func88, Try.ntmps88
    go_wp2
    go_ret
    exact ⟨by rw [HV.out]; rfl, rfl⟩
end Go.Proofs.Ytgddobdpibnkeaa
/- seatsOk of the program: at most eight seats by rising member, with unlike leaves. -/
namespace Go.Proofs.Ytgddobdpibnkeaa
open Go.RowKit

/-- The array of taken leaves when m seats have been looked at. -/
def Taken (T : Nat) (ss : List (Int × Int)) (m : Nat) (W : World) : Prop := ∀ l : Nat, l < 16 → W.cell? ⟨T, l, none⟩ = some (.bool (takenB ss m (l : Int))) ∧ W.frozen? ⟨T, l, none⟩ = false
theorem Taken.later {T : Nat} {ss : List (Int × Int)} {m : Nat} {W W' : World} (h : Taken T ss m W) (hb : Below W.heap.size W W') (hT : T < W.heap.size) : Taken T ss m W' := fun l hl =>
  ⟨(hb.cell (p := ⟨T, l, none⟩) hT).trans (h l hl).1, (hb.frozen (p := ⟨T, l, none⟩) hT).trans (h l hl).2⟩
theorem Taken.set {T : Nat} {ss : List (Int × Int)} {m n : Nat} {W : World} (h : Taken T ss m W) (hn : n < 16) (hm : (kAt ss m).2 = (n : Int)) : Taken T ss (m + 1) (W.setCell ⟨T, n, none⟩ (.bool true)) := fun l hl => by
  refine ⟨?_, by rw [World.frozen?_setCell]; exact (h l hl).2⟩
  rw [takenB_succ, hm]
  by_cases e : l = n
  · subst e
    exact (World.cell?_setCell_same _ _ _ (h l hl).1).trans (by simp)
  · refine (World.cell?_setCell_other _ _ _ _ (fun e' => e (by injection e' with _ h2; exact h2.symm))).trans ((h l hl).1.trans ?_)
    have : decide ((n : Int) = (l : Int)) = false := decide_eq_false (by omega)
    rw [this, Bool.or_false]
theorem below_drewN2 {n : Nat} {w W : World} (h : Below n w W) (k : Nat) : Below n w (W.drewN k) := ⟨h.os, h.tape, h.output, h.size, h.block⟩

set_option maxHeartbeats 2000000 in
theorem seatsOk_any {B : Nat} {v : Value} {ss : List (Int × Int)} {w : World} (h : Seats B v ss w) :
    Calls Try.prog 89 #[v] w fun e w' => e = .returned (.bool (seatsB ss)) ∧ Below w.heap.size w w' := by
  obtain ⟨a, c, rfl, hm, hrow⟩ := h.row
  clear h
  by_cases hl : ss.length ≤ 8
  · have HV : Hid (seatsB ss = seatsTo ss ss.length) := by show seatsB ss = _; simp [seatsB, hl]
    have HR : Hid (KRow a ss w) := hrow
    clear hrow hm
    have HT0 : Hid (Taken w.heap.size ss 0 (w.alloc (.cells #[.bool false, .bool false, .bool false, .bool false, .bool false, .bool false, .bool false, .bool false, .bool false, .bool false, .bool false, .bool false, .bool false, .bool false, .bool false, .bool false] 172))) := fun l hl => by
      have : l = 0 ∨ l = 1 ∨ l = 2 ∨ l = 3 ∨ l = 4 ∨ l = 5 ∨ l = 6 ∨ l = 7 ∨ l = 8 ∨ l = 9 ∨ l = 10 ∨ l = 11 ∨ l = 12 ∨ l = 13 ∨ l = 14 ∨ l = 15 := by omega
      rcases this with e | e | e | e | e | e | e | e | e | e | e | e | e | e | e | e <;> subst e <;> simp [takenB]
    have hB0 := one_below w (.cells #[.bool false, .bool false, .bool false, .bool false, .bool false, .bool false, .bool false, .bool false, .bool false, .bool false, .bool false, .bool false, .bool false, .bool false, .bool false, .bool false] 172)
    have hT0 : w.heap.size < (w.alloc (.cells #[.bool false, .bool false, .bool false, .bool false, .bool false, .bool false, .bool false, .bool false, .bool false, .bool false, .bool false, .bool false, .bool false, .bool false, .bool false, .bool false] 172)).heap.size := by simp
    generalize hn : ss.length = n at hl HV ⊢
    go_enter Try.func89, Try.ntmps89
    go_wp2
    generalize w.alloc (.cells #[.bool false, .bool false, .bool false, .bool false, .bool false, .bool false, .bool false, .bool false, .bool false, .bool false, .bool false, .bool false, .bool false, .bool false, .bool false, .bool false] 172) = w1 at HT0 hB0 hT0 ⊢
    go_loopw [11] (fun i wr => ∃ k : Nat, k ≤ n ∧ i = .int .i64 (k : Int) ∧ Hid (seatsTo ss k = true) ∧ Hid (Taken w.heap.size ss k wr) ∧ Below w.heap.size w wr ∧ w.heap.size < wr.heap.size) (fun i _ => n - (intOf i).toNat)
    case atStart => exact ⟨0, by omega, rfl, rfl, HT0, hB0, hT0⟩
    case round =>
      obtain ⟨k, hk, rfl, HP, HT, hB, hTl⟩ := hrel
      clear HT0 hB0 hT0
      by_cases hlt : k < n
      · have hlk : k < ss.length := by omega
        obtain ⟨g, ha, hg, hseg⟩ : ∃ g, a = some ⟨g, 0, none⟩ ∧ g < w.heap.size ∧ KSeg g 0 ss w := by
          rcases HR.out with e | e
          · rw [e] at hlk; simp at hlk
          · exact e
        subst ha
        obtain ⟨a1, a2⟩ := hseg k hlk
        simp only [Nat.zero_add] at a1 a2
        have c1 : wr.cell? ⟨g, k * 2, none⟩ = some (.int .i64 ss[k].1) := (hB.cell (p := ⟨g, k * 2, none⟩) hg).trans a1
        have c2 : wr.cell? ⟨g, k * 2 + 1, none⟩ = some (.int .i64 ss[k].2) := (hB.cell (p := ⟨g, k * 2 + 1, none⟩) hg).trans a2
        clear a1 a2
        have HK : Hid (kAt ss k = ss[k]) := kAt_get ss k hlk
        obtain ⟨x, y, hxy⟩ : ∃ x y, ss[k] = (x, y) := ⟨_, _, rfl⟩
        rw [hxy] at c1 c2 HK
        clear hxy
        have HS : Hid (seatAt ss k = (decide (1 ≤ x ∧ x ≤ 20) && (decide (8 ≤ y ∧ y ≤ 15) && ((decide (k = 0) || decide ((kAt ss (k - 1)).1 < x)) && !takenB ss k y)))) := by
          show seatAt ss k = _
          unfold seatAt
          rw [HK.out]
        have HKS : Hid (KSeg g 0 ss w) := hseg
        clear hseg
        have hB1 : Below w.heap.size w (wr.alloc (sb x y)) := hB.alloc hB.size _
        cases h1 : decide (1 ≤ x ∧ x ≤ 20) with
        | false =>
          have HF : Hid (seatsTo ss n = false) := seatsTo_false (m := k) (by rw [HS.out, h1]; rfl) hlt
          go_wp2_with fail
          refine (isMember_any _ _).mono ?_
          rintro e w' ⟨rfl, rfl⟩
          rw [h1]
          go_wp2
          go_ret
          exact ⟨by rw [HV.out, HF.out]; rfl, hB1⟩
        | true =>
        cases h2 : decide (8 ≤ y ∧ y ≤ 15) with
        | false =>
          have HF : Hid (seatsTo ss n = false) := seatsTo_false (m := k) (by rw [HS.out, h2]; simp) hlt
          go_wp2_with fail
          refine (isMember_any _ _).mono ?_
          rintro e w' ⟨rfl, rfl⟩
          rw [h1]
          go_wp2_with fail
          refine (isLeaf_any _ _).mono ?_
          rintro e w' ⟨rfl, rfl⟩
          rw [h2]
          go_wp2
          go_ret
          exact ⟨by rw [HV.out, HF.out]; rfl, hB1⟩
        | true =>
        have hy := of_decide_eq_true h2
        obtain ⟨l, rfl⟩ : ∃ l : Nat, y = (l : Int) := ⟨y.toNat, by omega⟩
        have hl16 : l < 16 := by omega
        obtain ⟨t1, t2⟩ := HT.out l hl16
        have tc := cell_since t1 (one_below wr (sb x (l : Int)))
        have tf : (wr.alloc (sb x (l : Int))).frozen? ⟨w.heap.size, l, none⟩ = false := ((one_below wr (sb x (l : Int))).frozen (p := ⟨w.heap.size, l, none⟩) hTl).trans t2
        clear t1 t2
        cases ht : takenB ss k (l : Int) with
        | true =>
          rw [ht] at tc
          have HF : Hid (seatsTo ss n = false) := seatsTo_false (m := k) (by rw [HS.out, ht]; simp) hlt
          go_wp2_with fail
          refine (isMember_any _ _).mono ?_
          rintro e w' ⟨rfl, rfl⟩
          rw [h1]
          go_wp2_with fail
          refine (isLeaf_any _ _).mono ?_
          rintro e w' ⟨rfl, rfl⟩
          rw [h2]
          go_wp2
          go_ret
          exact ⟨by rw [HV.out, HF.out]; rfl, hB1⟩
        | false =>
        rw [ht] at tc
        have HT1 : Hid (Taken w.heap.size ss (k + 1) ((wr.alloc (sb x (l : Int))).setCell ⟨w.heap.size, l, none⟩ (.bool true))) := (HT.out.later (one_below _ _) hTl).set hl16 (by rw [HK.out])
        have HBs : Hid (Below w.heap.size w ((wr.alloc (sb x (l : Int))).setCell ⟨w.heap.size, l, none⟩ (.bool true))) := hB1.setCell (by simp) _
        by_cases hk0 : k = 0
        · subst hk0
          have HF : Hid (seatsTo ss 1 = true) := by show seatsTo ss 1 = true; rw [seatsTo_succ, HP.out, HS.out, h1, h2, ht]; rfl
          go_wp2_with fail
          refine (isMember_any _ _).mono ?_
          rintro e w' ⟨rfl, rfl⟩
          rw [h1]
          go_wp2_with fail
          refine (isLeaf_any _ _).mono ?_
          rintro e w' ⟨rfl, rfl⟩
          rw [h2]
          go_wp2
          go_quiet (fail)
          go_wp2
          go_roundw
          case rel => exact ⟨1, by omega, by go_num, HF.out, HT1.out, below_drewN2 HBs.out _, by simp; omega⟩
          case measure => simp [intOf]; omega
        · obtain ⟨m, rfl⟩ : ∃ m, k = m + 1 := ⟨k - 1, by omega⟩
          have a3 := (HKS.out m (by omega)).1
          simp only [Nat.zero_add] at a3
          have c3 : wr.cell? ⟨g, m * 2, none⟩ = some (.int .i64 ss[m].1) := (hB.cell (p := ⟨g, m * 2, none⟩) hg).trans a3
          have HM : Hid ((kAt ss (m + 1 - 1)).1 = ss[m].1) := by show (kAt ss (m + 1 - 1)).1 = _; rw [Nat.add_sub_cancel, kAt_get ss m (by omega)]
          clear a3
          generalize ss[m].1 = z at c3 HM
          have c4 := cell_since c3 (one_below wr (sb x (l : Int)))
          by_cases hz : z < x
          · have HF : Hid (seatsTo ss (m + 1 + 1) = true) := by show seatsTo ss (m + 1 + 1) = true; rw [seatsTo_succ, HP.out, HS.out, h1, h2, ht, HM.out]; simp [hz]
            go_wp2_with fail
            refine (isMember_any _ _).mono ?_
            rintro e w' ⟨rfl, rfl⟩
            rw [h1]
            go_wp2_with fail
            refine (isLeaf_any _ _).mono ?_
            rintro e w' ⟨rfl, rfl⟩
            rw [h2]
            go_wp2
            go_quiet (fail)
            go_wp2
            go_roundw
            case rel => exact ⟨m + 1 + 1, by omega, by go_num, HF.out, HT1.out, below_drewN2 HBs.out _, by simp; omega⟩
            case measure => simp [intOf]; omega
          · have HF : Hid (seatsTo ss n = false) := seatsTo_false (m := m + 1) (by rw [HS.out, HM.out]; simp [hz]) hlt
            have hz' : x ≤ z := by omega
            go_wp2_with fail
            refine (isMember_any _ _).mono ?_
            rintro e w' ⟨rfl, rfl⟩
            rw [h1]
            go_wp2_with fail
            refine (isLeaf_any _ _).mono ?_
            rintro e w' ⟨rfl, rfl⟩
            rw [h2]
            go_wp2
            go_quiet (fail)
            go_wp2
            go_ret
            exact ⟨by rw [HV.out, HF.out]; rfl, below_drewN2 hB1 _⟩
      · have : k = n := by omega
        subst this
        go_wp2
        go_ret
        exact ⟨by rw [HV.out, HP.out]; rfl, hB⟩
  · have HV : Hid (seatsB ss = false) := by show seatsB ss = _; simp [seatsB, hl]
    unfold maxLen at hm
    generalize ss.length = n at *
    go_enter Try.func89, Try.ntmps89
    go_wp2
    go_ret
    exact ⟨by rw [HV.out]; rfl, Below.refl _ _⟩
end Go.Proofs.Ytgddobdpibnkeaa
/- Structs of three cells in memory: what is read there, and what a store makes of them. -/
namespace Go.Proofs.Ytgddobdpibnkeaa
open Go.RowKit

theorem box3 {R : Nat} {W : World} {u v x : Value} {t : TypeId} (h : W.heap[R]? = some (.cells #[u, v, x] t)) :
    (W.cell? ⟨R, 0, none⟩ = some u ∧ W.cell? ⟨R, 1, none⟩ = some v ∧ W.cell? ⟨R, 2, none⟩ = some x) ∧ W.frozen? ⟨R, 0, none⟩ = false ∧ W.frozen? ⟨R, 1, none⟩ = false ∧ W.frozen? ⟨R, 2, none⟩ = false := by
  simp [World.cell?, World.frozen?, h]
theorem box3_set0 {R : Nat} {W : World} {u v x : Value} {t : TypeId} (h : W.heap[R]? = some (.cells #[u, v, x] t)) (y : Value) : (W.setCell ⟨R, 0, none⟩ y).heap[R]? = some (.cells #[y, v, x] t) := by
  simp [World.setCell, Array.getElem?_modify, h]
theorem box3_set1 {R : Nat} {W : World} {u v x : Value} {t : TypeId} (h : W.heap[R]? = some (.cells #[u, v, x] t)) (y : Value) : (W.setCell ⟨R, 1, none⟩ y).heap[R]? = some (.cells #[u, y, x] t) := by
  simp [World.setCell, Array.getElem?_modify, h]
theorem box3_set2 {R : Nat} {W : World} {u v x : Value} {t : TypeId} (h : W.heap[R]? = some (.cells #[u, v, x] t)) (y : Value) : (W.setCell ⟨R, 2, none⟩ y).heap[R]? = some (.cells #[u, v, y] t) := by
  simp [World.setCell, Array.getElem?_modify, h]
theorem grown_set (W : World) (b o : Nat) (v : Value) : W.grownBy (W.setCell ⟨b, o, none⟩ v) (some b) :=
  ⟨rfl, rfl, rfl, by simp, fun k _ hne => by simp [World.setCell, Array.getElem?_modify, show b ≠ k from fun e => hne (by rw [e])]⟩
theorem blk' {W W' : World} {R k : Nat} {o : Obj} (hg : W.grownBy W' (some R)) (h : W.heap[k]? = some o) (hne : k ≠ R) : W'.heap[k]? = some o :=
  (hg.block k (Array.getElem?_eq_some_iff.1 h).1 (fun e => hne (by cases e; rfl))).trans h
/-- A store into memory of the call's own turns nothing below. -/
theorem below_set {n : Nat} {w W : World} (h : Below n w W) (b o : Nat) (v : Value) (hb : n ≤ b) (hn : n ≤ W.heap.size) : Below n w (W.setCell ⟨b, o, none⟩ v) :=
  h.grown (grown_set W b o v) hn (fun k e => by cases e; exact hb)
end Go.Proofs.Ytgddobdpibnkeaa
/- ServerOk of the program and of the model. -/
namespace Go.Proofs.Ytgddobdpibnkeaa
open Go.RowKit

abbrev svv (ep : Int) (x y : Value) : Value := .agg #[.int .i64 ep, x, y]
abbrev svb (ep : Int) (x y : Value) : Obj := .cells #[.int .i64 ep, x, y] 27
abbrev lsvb (ep : Int) (x y : Value) : Obj := .cells #[.int .i64 ep, x, y] 59
theorem scell3 (w : World) (ep : Int) (x y : Value) : (w.alloc (svb ep x y)).cell? ⟨w.heap.size, 0, none⟩ = some (.int .i64 ep) ∧ (w.alloc (svb ep x y)).cell? ⟨w.heap.size, 1, none⟩ = some x ∧ (w.alloc (svb ep x y)).cell? ⟨w.heap.size, 2, none⟩ = some y := by simp
theorem lscell3 (w : World) (ep : Int) (x y : Value) : (w.alloc (lsvb ep x y)).cell? ⟨w.heap.size, 0, none⟩ = some (.int .i64 ep) ∧ (w.alloc (lsvb ep x y)).cell? ⟨w.heap.size, 1, none⟩ = some x ∧ (w.alloc (lsvb ep x y)).cell? ⟨w.heap.size, 2, none⟩ = some y := by simp

set_option maxHeartbeats 1000000 in
theorem serverOk_any {B C : Nat} {x y : Value} {vs : List Int} {ss : List (Int × Int)} {w : World} (ep : Int) (hx : Ints B x vs w) (hy : Seats C y ss w) :
    Calls Try.prog 39 #[svv ep x y] w fun e w' => e = .returned (.bool (serverB ep vs ss)) ∧ Below w.heap.size w w' := by
  have hB := one_below w (svb ep x y)
  obtain ⟨c0, c1, c2⟩ := scell3 w ep x y
  have hX := hx.since hB
  have hY := hy.since hB
  clear hx hy
  go_enter Try.func39, Try.ntmps39
  go_wp2_with fail
  generalize w.alloc (svb ep x y) = w1 at hB c0 c1 c2 hX hY ⊢
  refine (epochOk_any _ _).mono ?_
  rintro e w' ⟨rfl, rfl⟩
  cases h1 : decide (0 ≤ ep ∧ ep ≤ 1000000000) with
  | false =>
    go_wp2
    go_ret
    exact ⟨by show Ending.returned (.bool false) = _; simp [serverB, h1], hB⟩
  | true =>
  go_wp2_with fail
  refine (versOk_any hX).mono ?_
  rintro e w' ⟨rfl, rfl⟩
  cases h2 : versB vs with
  | false =>
    go_wp2
    go_ret
    exact ⟨by show Ending.returned (.bool false) = _; simp [serverB, h2], hB⟩
  | true =>
  go_wp2_with fail
  refine (seatsOk_any hY).mono ?_
  rintro e w2 ⟨rfl, b2⟩
  go_wp2
  go_ret
  exact ⟨by show Ending.returned (.bool (seatsB ss)) = _; simp [serverB, h1, h2], more hB b2⟩

/-- What is known in the middle of the seats' look. -/
theorem l1In_at {S : World → Prop} (n lo hi : Int) (s : SW S) :
    Calls Try.prog 90 #[.int .i64 n, .int .i64 lo, .int .i64 hi] s.w fun e w' => e = .returned (.bool (decide (lo ≤ n ∧ n ≤ hi))) ∧ w' = s.w := l1InK_any n lo hi s.w

set_option maxHeartbeats 4000000 in
theorem specServerOk_any {B C : Nat} {x y : Value} {vs : List Int} {ss : List (Int × Int)} {w : World} (ep : Int) (hx : Ints B x vs w) (hy : Seats C y ss w) :
    Calls Try.prog 43 #[svv ep x y] w fun e w' => e = .returned (.bool (serverB ep vs ss)) ∧ Below w.heap.size w w' := by
  obtain ⟨a, c, hv, hm, hri⟩ := (hx.since (one_below w (svb ep x y))).row
  obtain ⟨a', c', hv', hm', hrk⟩ := (hy.since (one_below w (svb ep x y))).row
  subst hv hv'
  clear hx hy
  unfold maxLen at hm hm'
  have hB := one_below w (svb ep (.slice a vs.length c) (.slice a' ss.length c'))
  obtain ⟨c0, c1, c2⟩ := scell3 w ep (.slice a vs.length c) (.slice a' ss.length c')
  have HI : Hid (IRow a vs (w.alloc (svb ep (.slice a vs.length c) (.slice a' ss.length c')))) := hri
  have HS : Hid (KRow a' ss (w.alloc (svb ep (.slice a vs.length c) (.slice a' ss.length c')))) := hrk
  clear hri hrk
  cases h1 : decide (0 ≤ ep ∧ ep ≤ 1000000000) with
  | false =>
    go_enter Try.func43, Try.ntmps43
    go_wp2_with fail
    refine (l1InK_any _ _ _ _).mono ?_
    rintro e w' ⟨rfl, rfl⟩
    rw [h1]
    go_wp2
    go_ret
    exact ⟨by show Ending.returned (.bool false) = _; simp [serverB, h1], hB⟩
  | true =>
  by_cases hl : vs.length = 15
  case neg =>
    have hne : ((vs.length : Int) == 15) = false := by simp; omega
    go_enter Try.func43, Try.ntmps43
    go_wp2_with fail
    refine (l1InK_any _ _ _ _).mono ?_
    rintro e w' ⟨rfl, rfl⟩
    rw [h1]
    go_wp2
    go_ret
    exact ⟨by show Ending.returned (.bool false) = _; simp [serverB, versB, hl], hB⟩
  case pos =>
  by_cases hl8 : ss.length ≤ 8
  case neg =>
    have hne : ((vs.length : Int) == 15) = true := by rw [hl]; rfl
    go_enter Try.func43, Try.ntmps43
    go_wp2_with fail
    refine (l1InK_any _ _ _ _).mono ?_
    rintro e w' ⟨rfl, rfl⟩
    rw [h1]
    rw [hl] at hB
    go_wp2
    go_ret
    exact ⟨by show Ending.returned (.bool false) = _; simp [serverB, seatsB, hl8], hB⟩
  case pos =>
  have hne : ((vs.length : Int) == 15) = true := by rw [hl]; rfl
  have HB : Hid (serverB ep vs ss = (versTo vs 15 && seatsTo ss ss.length)) := by show serverB ep vs ss = _; simp [serverB, versB, seatsB, h1, hl, hl8]
  rw [hl] at hne hB c0 c1 c2 HI HS ⊢
  obtain ⟨g, ha, hg, hseg⟩ : ∃ g, a = some ⟨g, 0, none⟩ ∧ g < (w.alloc (svb ep (.slice a 15 c) (.slice a' ss.length c'))).heap.size ∧ ISeg g 0 vs (w.alloc (svb ep (.slice a 15 c) (.slice a' ss.length c'))) := by
    rcases HI.out with e | e
    · rw [e] at hl; simp at hl
    · exact e
  subst ha
  have HG : Hid (ISeg g 0 vs (w.alloc (svb ep (.slice (some ⟨g, 0, none⟩) 15 c) (.slice a' ss.length c')))) := hseg
  clear hseg HI
  generalize hn : ss.length = n at *
  have h8 : decide ((8 : Int) < (n : Int)) = false := decide_eq_false (by omega)
  go_enter Try.func43, Try.ntmps43
  go_wp2_with fail
  generalize w.alloc (svb ep (.slice (some ⟨g, 0, none⟩) 15 c) (.slice a' n c')) = w1 at hB c0 c1 c2 hg HG HS ⊢
  refine (l1InK_any _ _ _ _).mono ?_
  rintro e w' ⟨rfl, hww⟩
  subst w'
  rw [h1]
  clear h1
  go_wp2
  go_loopw [3] (fun i wr => ∃ k : Nat, k ≤ 15 ∧ i = .int .i64 (k : Int) ∧ Hid (versTo vs k = true) ∧ wr = w1) (fun i _ => 15 - (intOf i).toNat)
  case atStart => exact ⟨0, by omega, rfl, rfl, rfl⟩
  case round =>
    obtain ⟨k, hk, rfl, HP, hww⟩ := hrel
    subst hww
    by_cases hlt : k < 15
    · have hlk : k < vs.length := by omega
      have d1 := HG.out k hlk
      rw [Nat.zero_add] at d1
      have HA : Hid (verAt vs k = decide (1 ≤ vs[k] ∧ vs[k] ≤ 1000000000)) := by show verAt vs k = _; unfold verAt; rw [vAt_get vs k hlk]
      generalize vs[k] = z at d1 HA
      cases hz : decide (1 ≤ z ∧ z ≤ 1000000000) with
      | true =>
        have HF : Hid (versTo vs (k + 1) = true) := by show versTo vs (k + 1) = true; rw [versTo_succ, HP.out, HA.out, hz]; rfl
        go_wp2_with fail
        refine (l1InK_any _ _ _ _).mono ?_
        rintro e w' ⟨rfl, hww⟩
        subst w'
        rw [hz]
        go_wp2
        go_roundw
        case rel => exact ⟨k + 1, by omega, by go_num, HF.out, by first | trivial | rfl⟩
        case measure => simp [intOf]; omega
      | false =>
        have HF : Hid (versTo vs 15 = false) := versTo_false (m := k) (by rw [HA.out, hz]) hlt
        go_wp2_with fail
        refine (l1InK_any _ _ _ _).mono ?_
        rintro e w' ⟨rfl, hww⟩
        subst w'
        rw [hz]
        go_wp2
        go_ret
        exact ⟨by show Ending.returned (.bool false) = _; rw [HB.out, HF.out]; rfl, hB⟩
    · have HV : Hid (serverB ep vs ss = seatsTo ss n) := by
        show serverB ep vs ss = _
        have e : k = 15 := by omega
        have := HP.out
        rw [e] at this
        rw [HB.out, this]; simp
      clear HB HP
      go_wp2
      go_loopw [4] (fun i wq => ∃ k : Nat, k ≤ n ∧ i = .int .i64 (k : Int) ∧ Hid (seatsTo ss k = true) ∧ Below wr.heap.size wr wq) (fun i _ => n - (intOf i).toNat)
      case atStart => exact ⟨0, by omega, rfl, rfl, Below.refl _ _⟩
      case round =>
        obtain ⟨k, hk, rfl, HP, hQ⟩ := hrel
        rename World => wq
        have e2 := cell_since c2 hQ
        by_cases hlt : k < n
        · have hlk : k < ss.length := by omega
          obtain ⟨g', ha, hg', hseg⟩ : ∃ g', a' = some ⟨g', 0, none⟩ ∧ g' < wr.heap.size ∧ KSeg g' 0 ss wr := by
            rcases HS.out with e | e
            · rw [e] at hlk; simp at hlk
            · exact e
          subst ha
          obtain ⟨a1, a2⟩ := hseg k hlk
          simp only [Nat.zero_add] at a1 a2
          have m1 := cell_since a1 hQ
          have m2 := cell_since a2 hQ
          have HK : Hid (kAt ss k = ss[k]) := kAt_get ss k hlk
          obtain ⟨x, y, hxy⟩ : ∃ x y, ss[k] = (x, y) := ⟨_, _, rfl⟩
          rw [hxy] at m1 m2 HK
          clear hxy a1 a2
          have HSA : Hid (seatAt ss k = (decide (1 ≤ x ∧ x ≤ 20) && (decide (8 ≤ y ∧ y ≤ 15) && ((decide (k = 0) || decide ((kAt ss (k - 1)).1 < x)) && !takenB ss k y)))) := by
            show seatAt ss k = _
            unfold seatAt
            rw [HK.out]
          have HKS : Hid (KSeg g' 0 ss wr) := hseg
          clear hseg
          have b0 : (wq.alloc (sb x y)).cell? ⟨wq.heap.size, 0, none⟩ = some (.int .i64 x) := by simp
          have b1 : (wq.alloc (sb x y)).cell? ⟨wq.heap.size, 1, none⟩ = some (.int .i64 y) := by simp
          have f2 := cell_since e2 (one_below wq (sb x y))
          have hQa : Below wr.heap.size wr (wq.alloc (sb x y)) := hQ.alloc hQ.size _
          cases h1 : decide (1 ≤ x ∧ x ≤ 20) with
          | false =>
            have HF : Hid (seatsTo ss n = false) := seatsTo_false (m := k) (by rw [HSA.out, h1]; simp) hlt
            go_wp2
            have hS0 : (Cs4 wr ⟨wq.heap.size, 0, none⟩ (.int .i64 x) ⟨wq.heap.size, 1, none⟩ (.int .i64 y) ⟨w.heap.size, 2, none⟩ (.slice (some ⟨g', 0, none⟩) n c') ⟨wq.heap.size, 0, none⟩ (.int .i64 x)) (wq.alloc (sb x y)).drew := ⟨b0, b1, f2, b0, hQa.drew⟩
            have hSN := SW.some hS0
            have hS1 := fun s : SW (Cs4 wr ⟨wq.heap.size, 0, none⟩ (.int .i64 x) ⟨wq.heap.size, 1, none⟩ (.int .i64 y) ⟨w.heap.size, 2, none⟩ (.slice (some ⟨g', 0, none⟩) n c') ⟨wq.heap.size, 0, none⟩ (.int .i64 x)) => s.is.1
            have hS2 := fun s : SW (Cs4 wr ⟨wq.heap.size, 0, none⟩ (.int .i64 x) ⟨wq.heap.size, 1, none⟩ (.int .i64 y) ⟨w.heap.size, 2, none⟩ (.slice (some ⟨g', 0, none⟩) n c') ⟨wq.heap.size, 0, none⟩ (.int .i64 x)) => s.is.2.1
            have hS3 := fun s : SW (Cs4 wr ⟨wq.heap.size, 0, none⟩ (.int .i64 x) ⟨wq.heap.size, 1, none⟩ (.int .i64 y) ⟨w.heap.size, 2, none⟩ (.slice (some ⟨g', 0, none⟩) n c') ⟨wq.heap.size, 0, none⟩ (.int .i64 x)) => s.is.2.2.1
            have hS4 := fun s : SW (Cs4 wr ⟨wq.heap.size, 0, none⟩ (.int .i64 x) ⟨wq.heap.size, 1, none⟩ (.int .i64 y) ⟨w.heap.size, 2, none⟩ (.slice (some ⟨g', 0, none⟩) n c') ⟨wq.heap.size, 0, none⟩ (.int .i64 x)) => s.is.2.2.2.1
            refine wp_region_S (Cs4 wr ⟨wq.heap.size, 0, none⟩ (.int .i64 x) ⟨wq.heap.size, 1, none⟩ (.int .i64 y) ⟨w.heap.size, 2, none⟩ (.slice (some ⟨g', 0, none⟩) n c') ⟨wq.heap.size, 0, none⟩ (.int .i64 x)) (by kernel_rfl) (by kernel_rfl) hS0 ?_
            repeat (go_big_quiet_step ((rename_i s0; go_at_call 90; refine (l1In_at _ _ _ s0).mono ?_; rintro e w' ⟨rfl, rfl⟩; rw [h1]; exact ⟨rfl, ⟨s0, rfl⟩⟩)))
            refine wpQuiet_nil ?_
            rintro _ ⟨s, rfl⟩
            obtain ⟨q1, q2, q3, q4, hQf⟩ := s.is
            clear hS0 hSN hS1 hS2 hS3 hS4 b0 b1 f2 hQa
            generalize s.w = wz at *
            go_wp2
            go_ret
            exact ⟨by show Ending.returned (.bool false) = _; rw [HV.out, HF.out], more hB hQf⟩

          | true =>
            by_cases hk0 : k = 0
            · subst hk0
              cases h2 : decide (8 ≤ y ∧ y ≤ 15) with
              | false =>
                have HF : Hid (seatsTo ss n = false) := seatsTo_false (m := 0) (by rw [HSA.out, h2]; simp) hlt
                go_wp2
                have hS0 : (Cs4 wr ⟨wq.heap.size, 0, none⟩ (.int .i64 x) ⟨wq.heap.size, 1, none⟩ (.int .i64 y) ⟨w.heap.size, 2, none⟩ (.slice (some ⟨g', 0, none⟩) n c') ⟨wq.heap.size, 0, none⟩ (.int .i64 x)) (wq.alloc (sb x y)).drew := ⟨b0, b1, f2, b0, hQa.drew⟩
                have hSN := SW.some hS0
                have hS1 := fun s : SW (Cs4 wr ⟨wq.heap.size, 0, none⟩ (.int .i64 x) ⟨wq.heap.size, 1, none⟩ (.int .i64 y) ⟨w.heap.size, 2, none⟩ (.slice (some ⟨g', 0, none⟩) n c') ⟨wq.heap.size, 0, none⟩ (.int .i64 x)) => s.is.1
                have hS2 := fun s : SW (Cs4 wr ⟨wq.heap.size, 0, none⟩ (.int .i64 x) ⟨wq.heap.size, 1, none⟩ (.int .i64 y) ⟨w.heap.size, 2, none⟩ (.slice (some ⟨g', 0, none⟩) n c') ⟨wq.heap.size, 0, none⟩ (.int .i64 x)) => s.is.2.1
                have hS3 := fun s : SW (Cs4 wr ⟨wq.heap.size, 0, none⟩ (.int .i64 x) ⟨wq.heap.size, 1, none⟩ (.int .i64 y) ⟨w.heap.size, 2, none⟩ (.slice (some ⟨g', 0, none⟩) n c') ⟨wq.heap.size, 0, none⟩ (.int .i64 x)) => s.is.2.2.1
                have hS4 := fun s : SW (Cs4 wr ⟨wq.heap.size, 0, none⟩ (.int .i64 x) ⟨wq.heap.size, 1, none⟩ (.int .i64 y) ⟨w.heap.size, 2, none⟩ (.slice (some ⟨g', 0, none⟩) n c') ⟨wq.heap.size, 0, none⟩ (.int .i64 x)) => s.is.2.2.2.1
                refine wp_region_S (Cs4 wr ⟨wq.heap.size, 0, none⟩ (.int .i64 x) ⟨wq.heap.size, 1, none⟩ (.int .i64 y) ⟨w.heap.size, 2, none⟩ (.slice (some ⟨g', 0, none⟩) n c') ⟨wq.heap.size, 0, none⟩ (.int .i64 x)) (by kernel_rfl) (by kernel_rfl) hS0 ?_
                repeat (go_big_quiet_step ((rename_i s0; go_at_call 90; refine (l1In_at _ _ _ s0).mono ?_; rintro e w' ⟨rfl, rfl⟩; (first | rw [h1] | rw [h2]); exact ⟨rfl, ⟨s0, rfl⟩⟩)))
                refine wpQuiet_nil ?_
                rintro _ ⟨s, rfl⟩
                obtain ⟨q1, q2, q3, q4, hQf⟩ := s.is
                clear hS0 hSN hS1 hS2 hS3 hS4 b0 b1 f2 hQa
                generalize s.w = wz at *
                go_wp2
                go_ret
                exact ⟨by show Ending.returned (.bool false) = _; rw [HV.out, HF.out], more hB hQf⟩

              | true =>
                go_wp2
                have hS0 : (Cs4 wr ⟨wq.heap.size, 0, none⟩ (.int .i64 x) ⟨wq.heap.size, 1, none⟩ (.int .i64 y) ⟨w.heap.size, 2, none⟩ (.slice (some ⟨g', 0, none⟩) n c') ⟨wq.heap.size, 0, none⟩ (.int .i64 x)) (wq.alloc (sb x y)).drew := ⟨b0, b1, f2, b0, hQa.drew⟩
                have hSN := SW.some hS0
                have hS1 := fun s : SW (Cs4 wr ⟨wq.heap.size, 0, none⟩ (.int .i64 x) ⟨wq.heap.size, 1, none⟩ (.int .i64 y) ⟨w.heap.size, 2, none⟩ (.slice (some ⟨g', 0, none⟩) n c') ⟨wq.heap.size, 0, none⟩ (.int .i64 x)) => s.is.1
                have hS2 := fun s : SW (Cs4 wr ⟨wq.heap.size, 0, none⟩ (.int .i64 x) ⟨wq.heap.size, 1, none⟩ (.int .i64 y) ⟨w.heap.size, 2, none⟩ (.slice (some ⟨g', 0, none⟩) n c') ⟨wq.heap.size, 0, none⟩ (.int .i64 x)) => s.is.2.1
                have hS3 := fun s : SW (Cs4 wr ⟨wq.heap.size, 0, none⟩ (.int .i64 x) ⟨wq.heap.size, 1, none⟩ (.int .i64 y) ⟨w.heap.size, 2, none⟩ (.slice (some ⟨g', 0, none⟩) n c') ⟨wq.heap.size, 0, none⟩ (.int .i64 x)) => s.is.2.2.1
                have hS4 := fun s : SW (Cs4 wr ⟨wq.heap.size, 0, none⟩ (.int .i64 x) ⟨wq.heap.size, 1, none⟩ (.int .i64 y) ⟨w.heap.size, 2, none⟩ (.slice (some ⟨g', 0, none⟩) n c') ⟨wq.heap.size, 0, none⟩ (.int .i64 x)) => s.is.2.2.2.1
                refine wp_region_S (Cs4 wr ⟨wq.heap.size, 0, none⟩ (.int .i64 x) ⟨wq.heap.size, 1, none⟩ (.int .i64 y) ⟨w.heap.size, 2, none⟩ (.slice (some ⟨g', 0, none⟩) n c') ⟨wq.heap.size, 0, none⟩ (.int .i64 x)) (by kernel_rfl) (by kernel_rfl) hS0 ?_
                repeat (go_big_quiet_step ((rename_i s0; go_at_call 90; refine (l1In_at _ _ _ s0).mono ?_; rintro e w' ⟨rfl, rfl⟩; (first | rw [h1] | rw [h2]); exact ⟨rfl, ⟨s0, rfl⟩⟩)))
                refine wpQuiet_nil ?_
                rintro _ ⟨s, rfl⟩
                obtain ⟨q1, q2, q3, q4, hQf⟩ := s.is
                clear hS0 hSN hS1 hS2 hS3 hS4 b0 b1 f2 hQa
                generalize s.w = wz at *
                have HQ : Hid (Below wr.heap.size wr wz) := hQf
                have hsl : wz.cell? ⟨w.heap.size, 2, none⟩ = some (.slice (some ⟨g', 0, none⟩) n c') := q3
                clear q1 q3 q4
                go_wp2
                have HF : Hid (seatsTo ss 1 = true) := by
                  show seatsTo ss (0 + 1) = true
                  rw [seatsTo_succ, HP.out, HSA.out, h1, h2]; rfl
                refine wp_loop_rounds 1 ?_
                rw [rounds_succ]
                go_wp2
                go_roundw
                case rel => exact ⟨1, by omega, by go_num, HF.out, HQ.out⟩
                case measure => simp [intOf]; omega
            · obtain ⟨m, rfl⟩ : ∃ m, k = m + 1 := ⟨k - 1, by omega⟩
              have a3 := (HKS.out m (by omega)).1
              simp only [Nat.zero_add] at a3
              have c3 := cell_since a3 hQ
              have HM : Hid ((kAt ss (m + 1 - 1)).1 = ss[m].1) := by show (kAt ss (m + 1 - 1)).1 = _; rw [Nat.add_sub_cancel, kAt_get ss m (by omega)]
              clear a3
              generalize ss[m].1 = z at c3 HM
              have f3 := cell_since c3 (one_below wq (sb x y))
              by_cases hz : z < x
              · have hz' : decide (x ≤ z) = false := decide_eq_false (by omega)
                cases h2 : decide (8 ≤ y ∧ y ≤ 15) with
                | false =>
                  have HF : Hid (seatsTo ss n = false) := seatsTo_false (m := m + 1) (by rw [HSA.out, h2]; simp) hlt
                  go_wp2
                  have hS0 : (Cs4 wr ⟨wq.heap.size, 0, none⟩ (.int .i64 x) ⟨wq.heap.size, 1, none⟩ (.int .i64 y) ⟨w.heap.size, 2, none⟩ (.slice (some ⟨g', 0, none⟩) n c') ⟨g', m * 2, none⟩ (.int .i64 z)) (wq.alloc (sb x y)).drew := ⟨b0, b1, f2, f3, hQa.drew⟩
                  have hSN := SW.some hS0
                  have hS1 := fun s : SW (Cs4 wr ⟨wq.heap.size, 0, none⟩ (.int .i64 x) ⟨wq.heap.size, 1, none⟩ (.int .i64 y) ⟨w.heap.size, 2, none⟩ (.slice (some ⟨g', 0, none⟩) n c') ⟨g', m * 2, none⟩ (.int .i64 z)) => s.is.1
                  have hS2 := fun s : SW (Cs4 wr ⟨wq.heap.size, 0, none⟩ (.int .i64 x) ⟨wq.heap.size, 1, none⟩ (.int .i64 y) ⟨w.heap.size, 2, none⟩ (.slice (some ⟨g', 0, none⟩) n c') ⟨g', m * 2, none⟩ (.int .i64 z)) => s.is.2.1
                  have hS3 := fun s : SW (Cs4 wr ⟨wq.heap.size, 0, none⟩ (.int .i64 x) ⟨wq.heap.size, 1, none⟩ (.int .i64 y) ⟨w.heap.size, 2, none⟩ (.slice (some ⟨g', 0, none⟩) n c') ⟨g', m * 2, none⟩ (.int .i64 z)) => s.is.2.2.1
                  have hS4 := fun s : SW (Cs4 wr ⟨wq.heap.size, 0, none⟩ (.int .i64 x) ⟨wq.heap.size, 1, none⟩ (.int .i64 y) ⟨w.heap.size, 2, none⟩ (.slice (some ⟨g', 0, none⟩) n c') ⟨g', m * 2, none⟩ (.int .i64 z)) => s.is.2.2.2.1
                  refine wp_region_S (Cs4 wr ⟨wq.heap.size, 0, none⟩ (.int .i64 x) ⟨wq.heap.size, 1, none⟩ (.int .i64 y) ⟨w.heap.size, 2, none⟩ (.slice (some ⟨g', 0, none⟩) n c') ⟨g', m * 2, none⟩ (.int .i64 z)) (by kernel_rfl) (by kernel_rfl) hS0 ?_
                  repeat (go_big_quiet_step ((rename_i s0; go_at_call 90; refine (l1In_at _ _ _ s0).mono ?_; rintro e w' ⟨rfl, rfl⟩; (first | rw [h1] | rw [h2]); exact ⟨rfl, ⟨s0, rfl⟩⟩)))
                  refine wpQuiet_nil ?_
                  rintro _ ⟨s, rfl⟩
                  obtain ⟨q1, q2, q3, q4, hQf⟩ := s.is
                  clear hS0 hSN hS1 hS2 hS3 hS4 b0 b1 f2 hQa
                  generalize s.w = wz at *
                  go_wp2
                  go_ret
                  exact ⟨by show Ending.returned (.bool false) = _; rw [HV.out, HF.out], more hB hQf⟩

                | true =>
                  go_wp2
                  have hS0 : (Cs4 wr ⟨wq.heap.size, 0, none⟩ (.int .i64 x) ⟨wq.heap.size, 1, none⟩ (.int .i64 y) ⟨w.heap.size, 2, none⟩ (.slice (some ⟨g', 0, none⟩) n c') ⟨g', m * 2, none⟩ (.int .i64 z)) (wq.alloc (sb x y)).drew := ⟨b0, b1, f2, f3, hQa.drew⟩
                  have hSN := SW.some hS0
                  have hS1 := fun s : SW (Cs4 wr ⟨wq.heap.size, 0, none⟩ (.int .i64 x) ⟨wq.heap.size, 1, none⟩ (.int .i64 y) ⟨w.heap.size, 2, none⟩ (.slice (some ⟨g', 0, none⟩) n c') ⟨g', m * 2, none⟩ (.int .i64 z)) => s.is.1
                  have hS2 := fun s : SW (Cs4 wr ⟨wq.heap.size, 0, none⟩ (.int .i64 x) ⟨wq.heap.size, 1, none⟩ (.int .i64 y) ⟨w.heap.size, 2, none⟩ (.slice (some ⟨g', 0, none⟩) n c') ⟨g', m * 2, none⟩ (.int .i64 z)) => s.is.2.1
                  have hS3 := fun s : SW (Cs4 wr ⟨wq.heap.size, 0, none⟩ (.int .i64 x) ⟨wq.heap.size, 1, none⟩ (.int .i64 y) ⟨w.heap.size, 2, none⟩ (.slice (some ⟨g', 0, none⟩) n c') ⟨g', m * 2, none⟩ (.int .i64 z)) => s.is.2.2.1
                  have hS4 := fun s : SW (Cs4 wr ⟨wq.heap.size, 0, none⟩ (.int .i64 x) ⟨wq.heap.size, 1, none⟩ (.int .i64 y) ⟨w.heap.size, 2, none⟩ (.slice (some ⟨g', 0, none⟩) n c') ⟨g', m * 2, none⟩ (.int .i64 z)) => s.is.2.2.2.1
                  refine wp_region_S (Cs4 wr ⟨wq.heap.size, 0, none⟩ (.int .i64 x) ⟨wq.heap.size, 1, none⟩ (.int .i64 y) ⟨w.heap.size, 2, none⟩ (.slice (some ⟨g', 0, none⟩) n c') ⟨g', m * 2, none⟩ (.int .i64 z)) (by kernel_rfl) (by kernel_rfl) hS0 ?_
                  repeat (go_big_quiet_step ((rename_i s0; go_at_call 90; refine (l1In_at _ _ _ s0).mono ?_; rintro e w' ⟨rfl, rfl⟩; (first | rw [h1] | rw [h2]); exact ⟨rfl, ⟨s0, rfl⟩⟩)))
                  refine wpQuiet_nil ?_
                  rintro _ ⟨s, rfl⟩
                  obtain ⟨q1, q2, q3, q4, hQf⟩ := s.is
                  clear hS0 hSN hS1 hS2 hS3 hS4 b0 b1 f2 hQa
                  generalize s.w = wz at *
                  have HQ : Hid (Below wr.heap.size wr wz) := hQf
                  have hsl : wz.cell? ⟨w.heap.size, 2, none⟩ = some (.slice (some ⟨g', 0, none⟩) n c') := q3
                  clear q1 q3 q4
                  go_wp2
                  go_loopw [6] (fun i wi => ∃ j : Nat, j ≤ (m + 1) ∧ i = .int .i64 (j : Int) ∧ Hid (takenB ss j y = false) ∧ ∃ q, wi = wz.drewN q) (fun i _ => (m + 1) - (intOf i).toNat)
                  case atStart => exact ⟨0, by omega, rfl, rfl, 0, rfl⟩
                  case round =>
                    obtain ⟨j, hj, rfl, HJ, q, rfl⟩ := hrel
                    by_cases hjk : j < (m + 1)
                    · have hjl : j < ss.length := by omega
                      have r2 := (HKS.out j hjl).2
                      simp only [Nat.zero_add] at r2
                      have u2 := cell_since r2 hQf
                      have HU : Hid ((kAt ss j).2 = ss[j].2) := by show (kAt ss j).2 = _; rw [kAt_get ss j hjl]
                      clear r2
                      generalize ss[j].2 = t at u2 HU
                      by_cases ht : t = y
                      · have ht' : (t == y) = true := by simpa using ht
                        have HF : Hid (seatsTo ss n = false) := seatsTo_false (m := (m + 1)) (by rw [HSA.out, takenB_true (HU.out.trans ht) hjk]; simp) hlt
                        subst ht
                        go_wp2
                        go_quiet (fail)
                        go_wp2
                        go_ret
                        exact ⟨by show Ending.returned (.bool false) = _; rw [HV.out, HF.out], below_drewN2 (below_drewN2 (more hB HQ.out) _) _⟩
                      · have ht' : (t == y) = false := by simpa using ht
                        have HF : Hid (takenB ss (j + 1) y = false) := by show takenB ss (j + 1) y = false; rw [takenB_succ, HJ.out, HU.out]; simp [ht]
                        go_wp2
                        go_quiet (fail)
                        go_wp2
                        go_roundw
                        case rel => exact ⟨j + 1, by omega, by go_num, HF.out, q + nq, by simp⟩
                        case measure => simp [intOf]; omega
                    · have hje : j = (m + 1) := by omega
                      have HF : Hid (seatsTo ss ((m + 1) + 1) = true) := by
                        show seatsTo ss ((m + 1) + 1) = true
                        have := HJ.out
                        rw [hje] at this
                        rw [seatsTo_succ, HP.out, HSA.out, HM.out, this, h1, h2]; simp [hz]
                      go_wp2
                      go_roundw
                      case rel => exact ⟨(m + 1) + 1, by omega, by go_num, HF.out, below_drewN2 HQ.out _⟩
                      case measure => simp [intOf]; omega

              · have hz' : x ≤ z := by omega
                have HF : Hid (seatsTo ss n = false) := seatsTo_false (m := m + 1) (by rw [HSA.out, HM.out]; simp [hz]) hlt
                go_wp2
                have hS0 : (Cs4 wr ⟨wq.heap.size, 0, none⟩ (.int .i64 x) ⟨wq.heap.size, 1, none⟩ (.int .i64 y) ⟨w.heap.size, 2, none⟩ (.slice (some ⟨g', 0, none⟩) n c') ⟨g', m * 2, none⟩ (.int .i64 z)) (wq.alloc (sb x y)).drew := ⟨b0, b1, f2, f3, hQa.drew⟩
                have hSN := SW.some hS0
                have hS1 := fun s : SW (Cs4 wr ⟨wq.heap.size, 0, none⟩ (.int .i64 x) ⟨wq.heap.size, 1, none⟩ (.int .i64 y) ⟨w.heap.size, 2, none⟩ (.slice (some ⟨g', 0, none⟩) n c') ⟨g', m * 2, none⟩ (.int .i64 z)) => s.is.1
                have hS2 := fun s : SW (Cs4 wr ⟨wq.heap.size, 0, none⟩ (.int .i64 x) ⟨wq.heap.size, 1, none⟩ (.int .i64 y) ⟨w.heap.size, 2, none⟩ (.slice (some ⟨g', 0, none⟩) n c') ⟨g', m * 2, none⟩ (.int .i64 z)) => s.is.2.1
                have hS3 := fun s : SW (Cs4 wr ⟨wq.heap.size, 0, none⟩ (.int .i64 x) ⟨wq.heap.size, 1, none⟩ (.int .i64 y) ⟨w.heap.size, 2, none⟩ (.slice (some ⟨g', 0, none⟩) n c') ⟨g', m * 2, none⟩ (.int .i64 z)) => s.is.2.2.1
                have hS4 := fun s : SW (Cs4 wr ⟨wq.heap.size, 0, none⟩ (.int .i64 x) ⟨wq.heap.size, 1, none⟩ (.int .i64 y) ⟨w.heap.size, 2, none⟩ (.slice (some ⟨g', 0, none⟩) n c') ⟨g', m * 2, none⟩ (.int .i64 z)) => s.is.2.2.2.1
                refine wp_region_S (Cs4 wr ⟨wq.heap.size, 0, none⟩ (.int .i64 x) ⟨wq.heap.size, 1, none⟩ (.int .i64 y) ⟨w.heap.size, 2, none⟩ (.slice (some ⟨g', 0, none⟩) n c') ⟨g', m * 2, none⟩ (.int .i64 z)) (by kernel_rfl) (by kernel_rfl) hS0 ?_
                repeat (go_big_quiet_step ((rename_i s0; go_at_call 90; refine (l1In_at _ _ _ s0).mono ?_; rintro e w' ⟨rfl, rfl⟩; rw [h1]; exact ⟨rfl, ⟨s0, rfl⟩⟩)))
                refine wpQuiet_nil ?_
                rintro _ ⟨s, rfl⟩
                obtain ⟨q1, q2, q3, q4, hQf⟩ := s.is
                clear hS0 hSN hS1 hS2 hS3 hS4 b0 b1 f2 hQa
                generalize s.w = wz at *
                go_wp2
                go_ret
                exact ⟨by show Ending.returned (.bool false) = _; rw [HV.out, HF.out], more hB hQf⟩

        · have : k = n := by omega
          subst this
          go_wp2
          go_ret
          exact ⟨by show Ending.returned (.bool true) = _; rw [HV.out, HP.out], more hB hQ⟩

end Go.Proofs.Ytgddobdpibnkeaa
