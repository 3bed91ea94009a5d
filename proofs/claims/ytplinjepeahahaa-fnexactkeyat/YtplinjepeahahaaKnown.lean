
/- The contracts of KnownOk, of the program and of the model: at most 200 right keys that rise. -/
import Derived.Test.YtplinjepeahahaaKeys
import Derived.Test.YtplinjepeahahaaRegS
namespace Go.Proofs.Ytplinjepeahahaa
open Go.RowKit

def kAt (ks : List (Int × Int)) (i : Nat) : Int × Int := ks.getD i (0, 0)
theorem kAt_get (ks : List (Int × Int)) (i : Nat) (h : i < ks.length) : kAt ks i = ks[i] := by simp [kAt, h]
def okAt (ks : List (Int × Int)) (i : Nat) : Bool := okK (kAt ks i).1 (kAt ks i).2 && (decide (i = 0) || aheadB (kAt ks (i - 1)).1 (kAt ks (i - 1)).2 (kAt ks i).1 (kAt ks i).2)
def allTo (ks : List (Int × Int)) (m : Nat) : Bool := (List.range m).all (okAt ks)
theorem allTo_succ (ks : List (Int × Int)) (m : Nat) : allTo ks (m + 1) = (allTo ks m && okAt ks m) := by simp [allTo, List.range_succ]
theorem allTo_false {ks : List (Int × Int)} {m n : Nat} (h : okAt ks m = false) (hn : m < n) : allTo ks n = false := by
  simp only [allTo, List.all_eq_false]
  exact ⟨m, List.mem_range.2 hn, by simp [h]⟩
def knownB (ks : List (Int × Int)) : Bool := decide (ks.length ≤ 200) && allTo ks ks.length
theorem one_below (w : World) (o : Obj) : Below w.heap.size w (w.alloc o) := (Below.refl _ _).alloc (Nat.le_refl _) o
theorem l2Key_below (n v : Int) (w : World) :
    Calls Try.prog 68 #[kv n v] w fun e w' => e = .returned (.bool (okK n v)) ∧ Below w.heap.size w w' := (l2Key_any n v w).mono fun _ _ h => ⟨h.1, h.2 ▸ one_below _ _⟩
theorem keyOk_below (n v : Int) (w : World) :
    Calls Try.prog 71 #[kv n v] w fun e w' => e = .returned (.bool (okK n v)) ∧ Below w.heap.size w w' := (keyOk_any n v w).mono fun _ _ h => ⟨h.1, h.2 ▸ one_below _ _⟩
theorem specAheadK (a0 a1 b0 b1 : Int) (w : World) :
    Calls Try.prog 69 #[kv a0 a1, kv b0 b1] w fun e w' => e = .returned (.bool (aheadB a0 a1 b0 b1)) ∧ Below w.heap.size w w' :=
  (specAhead_any a0 a1 b0 b1 w).mono fun _ _ h => ⟨h.1, by rw [h.2]; exact ((Below.refl _ _).alloc (Nat.le_refl _) _).alloc (by simp) _⟩
theorem keyAheadK (a0 a1 b0 b1 : Int) (w : World) :
    Calls Try.prog 72 #[kv a0 a1, kv b0 b1] w fun e w' => e = .returned (.bool (aheadB a0 a1 b0 b1)) ∧ Below w.heap.size w w' :=
  (keyAhead_any a0 a1 b0 b1 w).mono fun _ _ h => ⟨h.1, by rw [h.2]; exact ((((Below.refl _ _).alloc (Nat.le_refl _) _).alloc (by simp) _).alloc (by simp; omega) _).alloc (by simp; omega) _⟩

theorem specKnownOk_none (a : Option Addr) (c : Nat) (w : World) :
    Calls Try.prog 57 #[.slice a 0 c] w fun e w' => e = .returned (.bool true) ∧ w' = w := by
  go_enter Try.func57, Try.ntmps57
  go_wp2
  refine wp_loop_rounds 1 ?_
  rw [rounds_succ]
  go_wp2
  go_ret
  exact ⟨by simp, rfl⟩

set_option maxHeartbeats 1000000 in
theorem specKnownOk_row (g c : Nat) (ks : List (Int × Int)) (w : World) (hm : ks.length ≤ maxLen) (hg : g < w.heap.size) (h1 : KSeg g 0 ks w) :
    Calls Try.prog 57 #[.slice (some ⟨g, 0, none⟩) ks.length c] w fun e w' => e = .returned (.bool (knownB ks)) ∧ Below w.heap.size w w' := by
  unfold maxLen at hm
  generalize hn : ks.length = n at hm ⊢
  go_enter Try.func57, Try.ntmps57
  go_wp2
  go_loopw [3] (fun i wr => ∃ k : Nat, k ≤ n ∧ i = .int .i64 k ∧ allTo ks k = true ∧ Below w.heap.size w wr) (fun i _ => n - (intOf i).toNat)
  case atStart => exact ⟨0, Nat.zero_le _, rfl, rfl, Below.refl _ _⟩
  case round =>
    obtain ⟨k, hk, rfl, hpre, hB⟩ := hrel
    have HP : Hid (allTo ks k = true) := hpre
    have H1 : Hid (KSeg g 0 ks w) := h1
    clear hpre h1
    by_cases hlt : k < n
    · have hlk : k < ks.length := by omega
      obtain ⟨a1, a2⟩ := H1.out k hlk
      simp only [Nat.zero_add] at a1 a2
      have c1 : wr.cell? ⟨g, k * 2, none⟩ = some (.int .i64 ks[k].1) := (hB.cell (p := ⟨g, k * 2, none⟩) hg).trans a1
      have c2 : wr.cell? ⟨g, k * 2 + 1, none⟩ = some (.int .i64 ks[k].2) := (hB.cell (p := ⟨g, k * 2 + 1, none⟩) hg).trans a2
      have hsz := hB.size
      clear a1 a2
      have HO : Hid (okAt ks k = (okK ks[k].1 ks[k].2 && (decide (k = 0) || aheadB (kAt ks (k - 1)).1 (kAt ks (k - 1)).2 ks[k].1 ks[k].2))) := by
        show okAt ks k = _
        unfold okAt; rw [kAt_get ks k hlk]
      generalize ks[k].1 = x1 at c1 HO
      generalize ks[k].2 = x2 at c2 HO
      cases hok : okK x1 x2 with
      | false =>
        go_wp2
        have hS0 : Cs2 w ⟨g, k * 2, none⟩ (.int .i64 x1) ⟨g, k * 2 + 1, none⟩ (.int .i64 x2) wr.drew := ⟨c1, c2, hB.drew⟩
        have hSN := SW.some hS0
        have hS1 := fun s : SW (Cs2 w ⟨g, k * 2, none⟩ (.int .i64 x1) ⟨g, k * 2 + 1, none⟩ (.int .i64 x2)) => s.is.1
        have hS2 := fun s : SW (Cs2 w ⟨g, k * 2, none⟩ (.int .i64 x1) ⟨g, k * 2 + 1, none⟩ (.int .i64 x2)) => s.is.2.1
        refine wp_region_S (Cs2 w ⟨g, k * 2, none⟩ (.int .i64 x1) ⟨g, k * 2 + 1, none⟩ (.int .i64 x2)) (by kernel_rfl) (by kernel_rfl) hS0 ?_
        repeat (go_big_quiet_step ((rename_i s0; go_at_call 68; refine (l2Key_below x1 x2 _).mono ?_; rintro e w' ⟨rfl, hb⟩; rw [hok]; exact ⟨rfl, SW.of (s0.is.later hb)⟩)))
        refine wpQuiet_nil ?_
        rintro _ ⟨s, rfl⟩
        have hBf := s.is.2.2
        clear hS0 hSN hS1 hS2 c1 c2
        go_wp2
        go_ret
        refine ⟨?_, hBf⟩
        have hno : okAt ks k = false := by rw [HO.out, hok]; rfl
        have : knownB ks = false := by unfold knownB; rw [allTo_false hno hlk]; simp
        show Ending.returned (.bool false) = _
        rw [this]
      | true =>
        by_cases hk0 : k = 0
        · subst hk0
          go_wp2
          have hS0 : Cs2 w ⟨g, 0, none⟩ (.int .i64 x1) ⟨g, 1, none⟩ (.int .i64 x2) wr.drew := ⟨by simpa using c1, by simpa using c2, hB.drew⟩
          have hSN := SW.some hS0
          have hS1 := fun s : SW (Cs2 w ⟨g, 0, none⟩ (.int .i64 x1) ⟨g, 1, none⟩ (.int .i64 x2)) => s.is.1
          have hS2 := fun s : SW (Cs2 w ⟨g, 0, none⟩ (.int .i64 x1) ⟨g, 1, none⟩ (.int .i64 x2)) => s.is.2.1
          refine wp_region_S (Cs2 w ⟨g, 0, none⟩ (.int .i64 x1) ⟨g, 1, none⟩ (.int .i64 x2)) (by kernel_rfl) (by kernel_rfl) hS0 ?_
          repeat (go_big_quiet_step ((rename_i s0; go_at_call 68; refine (l2Key_below x1 x2 _).mono ?_; rintro e w' ⟨rfl, hb⟩; rw [hok]; exact ⟨rfl, SW.of (s0.is.later hb)⟩)))
          refine wpQuiet_nil ?_
          rintro _ ⟨s, rfl⟩
          have hBf := s.is.2.2
          clear hS0 hSN hS1 hS2 c1 c2
          have HA : Hid (allTo ks 1 = true) := by
            show allTo ks 1 = true
            rw [allTo_succ, HP.out, HO.out, hok]; rfl
          go_wp2
          go_roundw
          case rel => exact ⟨1, by omega, by go_num, HA.out, hBf⟩
          case measure => simp [intOf]; omega
        · have hkp : k - 1 < ks.length := by omega
          obtain ⟨a1, a2⟩ := H1.out (k - 1) hkp
          simp only [Nat.zero_add] at a1 a2
          have d1 : wr.cell? ⟨g, (k - 1) * 2, none⟩ = some (.int .i64 ks[k - 1].1) := (hB.cell (p := ⟨g, (k - 1) * 2, none⟩) hg).trans a1
          have d2 : wr.cell? ⟨g, (k - 1) * 2 + 1, none⟩ = some (.int .i64 ks[k - 1].2) := (hB.cell (p := ⟨g, (k - 1) * 2 + 1, none⟩) hg).trans a2
          clear a1 a2
          have HO2 : Hid (okAt ks k = (okK x1 x2 && (decide (k = 0) || aheadB ks[k - 1].1 ks[k - 1].2 x1 x2))) := by
            show okAt ks k = _
            rw [HO.out, kAt_get ks (k - 1) hkp]
          generalize ks[k - 1].1 = y1 at d1 HO2
          generalize ks[k - 1].2 = y2 at d2 HO2
          have hkn : 0 < k := by omega
          go_wp2
          have hS0 : Cs4 w ⟨g, k * 2, none⟩ (.int .i64 x1) ⟨g, k * 2 + 1, none⟩ (.int .i64 x2) ⟨g, (k - 1) * 2, none⟩ (.int .i64 y1) ⟨g, (k - 1) * 2 + 1, none⟩ (.int .i64 y2) wr.drew := ⟨c1, c2, d1, d2, hB.drew⟩
          have hSN := SW.some hS0
          have hS1 := fun s : SW (Cs4 w ⟨g, k * 2, none⟩ (.int .i64 x1) ⟨g, k * 2 + 1, none⟩ (.int .i64 x2) ⟨g, (k - 1) * 2, none⟩ (.int .i64 y1) ⟨g, (k - 1) * 2 + 1, none⟩ (.int .i64 y2)) => s.is.1
          have hS2 := fun s : SW (Cs4 w ⟨g, k * 2, none⟩ (.int .i64 x1) ⟨g, k * 2 + 1, none⟩ (.int .i64 x2) ⟨g, (k - 1) * 2, none⟩ (.int .i64 y1) ⟨g, (k - 1) * 2 + 1, none⟩ (.int .i64 y2)) => s.is.2.1
          have hS3 := fun s : SW (Cs4 w ⟨g, k * 2, none⟩ (.int .i64 x1) ⟨g, k * 2 + 1, none⟩ (.int .i64 x2) ⟨g, (k - 1) * 2, none⟩ (.int .i64 y1) ⟨g, (k - 1) * 2 + 1, none⟩ (.int .i64 y2)) => s.is.2.2.1
          have hS4 := fun s : SW (Cs4 w ⟨g, k * 2, none⟩ (.int .i64 x1) ⟨g, k * 2 + 1, none⟩ (.int .i64 x2) ⟨g, (k - 1) * 2, none⟩ (.int .i64 y1) ⟨g, (k - 1) * 2 + 1, none⟩ (.int .i64 y2)) => s.is.2.2.2.1
          refine wp_region_S (Cs4 w ⟨g, k * 2, none⟩ (.int .i64 x1) ⟨g, k * 2 + 1, none⟩ (.int .i64 x2) ⟨g, (k - 1) * 2, none⟩ (.int .i64 y1) ⟨g, (k - 1) * 2 + 1, none⟩ (.int .i64 y2)) (by kernel_rfl) (by kernel_rfl) hS0 ?_
          repeat (go_big_quiet_step ((rename_i s0; first | (go_at_call 68; refine (l2Key_below x1 x2 _).mono ?_; rintro e w' ⟨rfl, hb⟩; rw [hok]; exact ⟨rfl, SW.of (s0.is.later hb)⟩) | (go_at_call 69; refine (specAheadK y1 y2 x1 x2 _).mono ?_; rintro e w' ⟨rfl, hb⟩; exact ⟨rfl, SW.of (s0.is.later hb)⟩))))
          refine wpQuiet_nil ?_
          rintro _ ⟨s, rfl⟩
          have hBf := s.is.2.2.2.2
          clear hS0 hSN hS1 hS2 hS3 hS4 c1 c2 d1 d2
          cases hah : aheadB y1 y2 x1 x2 with
          | true =>
            have HA : Hid (allTo ks (k + 1) = true) := by
              show allTo ks (k + 1) = true
              rw [allTo_succ, HP.out, HO2.out, hok, hah]; simp
            go_wp2
            go_roundw
            case rel => exact ⟨k + 1, by omega, by go_num, HA.out, hBf⟩
            case measure => simp [intOf]; omega
          | false =>
            go_wp2
            go_ret
            refine ⟨?_, hBf⟩
            have hno : okAt ks k = false := by rw [HO2.out, hok, hah]; simp [hk0]
            have : knownB ks = false := by unfold knownB; rw [allTo_false hno hlk]; simp
            show Ending.returned (.bool false) = _
            rw [this]
    · have hke : k = n := by omega
      have hkb : knownB ks = decide (n ≤ 200) := by unfold knownB; rw [hn, ← hke, HP.out]; simp
      have HKB : Hid _ := hkb
      clear hkb
      go_wp2
      go_ret
      refine ⟨?_, hB⟩
      rw [HKB.out]
      have e : decide ((n : Int) ≤ 200) = decide (n ≤ 200) := by rw [decide_eq_decide]; omega
      rw [← e]
      rfl
end Go.Proofs.Ytplinjepeahahaa
