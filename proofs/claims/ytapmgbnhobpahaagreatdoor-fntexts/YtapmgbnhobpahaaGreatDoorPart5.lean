/- ServerOk of the program and of the model. -/
import Derived.Test.YtapmgbnhobpahaaGreatDoorPart4
import Derived.Test.YtapmgbnhobpahaaGreatDoorPart1
import Derived.BigRegion
import Derived.RegionTactic
import Derived.ChangeAlike
import Derived.Test.YtapmgbnhobpahaaGreatDoorRows
import Derived.WalkKit
import Derived.WalkSpells
import Derived.WalkLawsBesides
import Derived.Deep.QuietTactic
import Derived.BigQuiet
import Derived.RangeFuncNested
import Derived.RangeFuncBound
import Derived.RangeFuncCalls
import Derived.RangeFuncLeaves
import Derived.RangeFuncBox
import Derived.Shelf.Abstract
import Derived.Shelf.RegionOpen
import Derived.OwnWalkIn
import Derived.TacticsInMore
import Derived.LoopNIn
import Derived.LoopIn
import Derived.Deep.RegionHeld3
import Derived.Deep.AppendLies
namespace Go.Proofs.YtapmgbnhobpahaaGreatDoor
open Go.RowKit

abbrev svv (ep : Int) (x y : Value) : Value := .agg #[.int .i64 ep, x, y]
abbrev svb (ep : Int) (x y : Value) : Obj := .cells #[.int .i64 ep, x, y] 83
theorem scell3 (w : World) (ep : Int) (x y : Value) : (w.alloc (svb ep x y)).cell? ⟨w.heap.size, 0, none⟩ = some (.int .i64 ep) ∧ (w.alloc (svb ep x y)).cell? ⟨w.heap.size, 1, none⟩ = some x ∧ (w.alloc (svb ep x y)).cell? ⟨w.heap.size, 2, none⟩ = some y := by simp
/-- What is known in the middle of the seats' look. -/
theorem l1In_at {S : World → Prop} (n lo hi : Int) (s : SW S) :
    Calls Tryz.prog 57 #[.int .i64 n, .int .i64 lo, .int .i64 hi] s.w fun e w' => e = .returned (.bool (decide (lo ≤ n ∧ n ≤ hi))) ∧ w' = s.w := l1InK_any n lo hi s.w

set_option maxHeartbeats 4000000 in
theorem specServerOk_any {B C : Nat} {x y : Value} {vs : List Int} {ss : List (Int × Int)} {w : World} (ep : Int) (hx : Ints B x vs w) (hy : Seats C y ss w) :
    Calls Tryz.prog 66 #[svv ep x y] w fun e w' => e = .returned (.bool (serverB ep vs ss)) ∧ Below w.heap.size w w' := by
  obtain ⟨a, c, hv, hm, hri⟩ := (hx.since (one_below w (svb ep x y))).row
  obtain ⟨a', c', hv', hm', hrk⟩ := (hy.since (one_below w (svb ep x y))).row
  subst hv hv'
  clear hx hy
  unfold maxLen at hm hm'
  have hB := one_below w (svb ep (.slice a vs.length c) (.slice a' ss.length c'))
  obtain ⟨c0, c1, c2⟩ := scell3 w ep (.slice a vs.length c) (.slice a' ss.length c')
  have HI : Hid (IRow a vs (w.alloc (svb ep (.slice a vs.length c) (.slice a' ss.length c')))) := hri
  have HS : Hid (KRow a' ss (w.alloc (svb ep (.slice a vs.length c) (.slice a' ss.length c')))) := hrk
  clear hri hrk
  cases h1 : decide (0 ≤ ep ∧ ep ≤ 1000000000) with
  | false =>
    go_enter Tryz.func66, Tryz.ntmps66
    go_wp2_with fail
    refine (l1InK_any _ _ _ _).mono ?_
    rintro e w' ⟨rfl, rfl⟩
    rw [h1]
    go_wp2
    go_ret
    exact ⟨by show Ending.returned (.bool false) = _; simp [serverB, h1], hB⟩
  | true =>
  by_cases hl : vs.length = 15
  case neg =>
    have hne : ((vs.length : Int) == 15) = false := by simp; omega
    go_enter Tryz.func66, Tryz.ntmps66
    go_wp2_with fail
    refine (l1InK_any _ _ _ _).mono ?_
    rintro e w' ⟨rfl, rfl⟩
    rw [h1]
    go_wp2
    go_ret
    exact ⟨by show Ending.returned (.bool false) = _; simp [serverB, versB, hl], hB⟩
  case pos =>
  by_cases hl8 : ss.length ≤ 8
  case neg =>
    have hne : ((vs.length : Int) == 15) = true := by rw [hl]; rfl
    go_enter Tryz.func66, Tryz.ntmps66
    go_wp2_with fail
    refine (l1InK_any _ _ _ _).mono ?_
    rintro e w' ⟨rfl, rfl⟩
    rw [h1]
    rw [hl] at hB
    go_wp2
    go_ret
    exact ⟨by show Ending.returned (.bool false) = _; simp [serverB, seatsB, hl8], hB⟩
  case pos =>
  have hne : ((vs.length : Int) == 15) = true := by rw [hl]; rfl
  have HB : Hid (serverB ep vs ss = (versTo vs 15 && seatsTo ss ss.length)) := by show serverB ep vs ss = _; simp [serverB, versB, seatsB, h1, hl, hl8]
  rw [hl] at hne hB c0 c1 c2 HI HS ⊢
  obtain ⟨g, ha, hg, hseg⟩ : ∃ g, a = some ⟨g, 0, none⟩ ∧ g < (w.alloc (svb ep (.slice a 15 c) (.slice a' ss.length c'))).heap.size ∧ ISeg g 0 vs (w.alloc (svb ep (.slice a 15 c) (.slice a' ss.length c'))) := by
    rcases HI.out with e | e
    · rw [e] at hl; simp at hl
    · exact e
  subst ha
  have HG : Hid (ISeg g 0 vs (w.alloc (svb ep (.slice (some ⟨g, 0, none⟩) 15 c) (.slice a' ss.length c')))) := hseg
  clear hseg HI
  generalize hn : ss.length = n at *
  have h8 : decide ((8 : Int) < (n : Int)) = false := decide_eq_false (by omega)
  go_enter Tryz.func66, Tryz.ntmps66
  go_wp2_with fail
  generalize w.alloc (svb ep (.slice (some ⟨g, 0, none⟩) 15 c) (.slice a' n c')) = w1 at hB c0 c1 c2 hg HG HS ⊢
  refine (l1InK_any _ _ _ _).mono ?_
  rintro e w' ⟨rfl, hww⟩
  subst w'
  rw [h1]
  clear h1
  go_wp2
  go_loopw [3] (fun i wr => ∃ k : Nat, k ≤ 15 ∧ i = .int .i64 (k : Int) ∧ Hid (versTo vs k = true) ∧ wr = w1) (fun i _ => 15 - (intOf i).toNat)
  case atStart => exact ⟨0, by omega, rfl, rfl, rfl⟩
  case round =>
    obtain ⟨k, hk, rfl, HP, hww⟩ := hrel
    subst hww
    by_cases hlt : k < 15
    · have hlk : k < vs.length := by omega
      have d1 := HG.out k hlk
      rw [Nat.zero_add] at d1
      have HA : Hid (verAt vs k = decide (1 ≤ vs[k] ∧ vs[k] ≤ 1000000000)) := by show verAt vs k = _; unfold verAt; rw [vAt_get vs k hlk]
      generalize vs[k] = z at d1 HA
      cases hz : decide (1 ≤ z ∧ z ≤ 1000000000) with
      | true =>
        have HF : Hid (versTo vs (k + 1) = true) := by show versTo vs (k + 1) = true; rw [versTo_succ, HP.out, HA.out, hz]; rfl
        go_wp2_with fail
        refine (l1InK_any _ _ _ _).mono ?_
        rintro e w' ⟨rfl, hww⟩
        subst w'
        rw [hz]
        go_wp2
        go_roundw
        case rel => exact ⟨k + 1, by omega, by go_num, HF.out, by first | trivial | rfl⟩
        case measure => simp [intOf]; omega
      | false =>
        have HF : Hid (versTo vs 15 = false) := versTo_false (m := k) (by rw [HA.out, hz]) hlt
        go_wp2_with fail
        refine (l1InK_any _ _ _ _).mono ?_
        rintro e w' ⟨rfl, hww⟩
        subst w'
        rw [hz]
        go_wp2
        go_ret
        exact ⟨by show Ending.returned (.bool false) = _; rw [HB.out, HF.out]; rfl, hB⟩
    · have HV : Hid (serverB ep vs ss = seatsTo ss n) := by
        show serverB ep vs ss = _
        have e : k = 15 := by omega
        have := HP.out
        rw [e] at this
        rw [HB.out, this]; simp
      clear HB HP
      go_wp2
      go_loopw [4] (fun i wq => ∃ k : Nat, k ≤ n ∧ i = .int .i64 (k : Int) ∧ Hid (seatsTo ss k = true) ∧ Below wr.heap.size wr wq) (fun i _ => n - (intOf i).toNat)
      case atStart => exact ⟨0, by omega, rfl, rfl, Below.refl _ _⟩
      case round =>
        obtain ⟨k, hk, rfl, HP, hQ⟩ := hrel
        rename World => wq
        have e2 := cell_since c2 hQ
        by_cases hlt : k < n
        · have hlk : k < ss.length := by omega
          obtain ⟨g', ha, hg', hseg⟩ : ∃ g', a' = some ⟨g', 0, none⟩ ∧ g' < wr.heap.size ∧ KSeg g' 0 ss wr := by
            rcases HS.out with e | e
            · rw [e] at hlk; simp at hlk
            · exact e
          subst ha
          obtain ⟨a1, a2⟩ := hseg k hlk
          simp only [Nat.zero_add] at a1 a2
          have m1 := cell_since a1 hQ
          have m2 := cell_since a2 hQ
          have HK : Hid (kAt ss k = ss[k]) := kAt_get ss k hlk
          obtain ⟨x, y, hxy⟩ : ∃ x y, ss[k] = (x, y) := ⟨_, _, rfl⟩
          rw [hxy] at m1 m2 HK
          clear hxy a1 a2
          have HSA : Hid (seatAt ss k = (decide (1 ≤ x ∧ x ≤ 20) && (decide (8 ≤ y ∧ y ≤ 15) && ((decide (k = 0) || decide ((kAt ss (k - 1)).1 < x)) && !takenB ss k y)))) := by
            show seatAt ss k = _
            unfold seatAt
            rw [HK.out]
          have HKS : Hid (KSeg g' 0 ss wr) := hseg
          clear hseg
          have b0 : (wq.alloc (sb x y)).cell? ⟨wq.heap.size, 0, none⟩ = some (.int .i64 x) := by simp
          have b1 : (wq.alloc (sb x y)).cell? ⟨wq.heap.size, 1, none⟩ = some (.int .i64 y) := by simp
          have f2 := cell_since e2 (one_below wq (sb x y))
          have hQa : Below wr.heap.size wr (wq.alloc (sb x y)) := hQ.alloc hQ.size _
          cases h1 : decide (1 ≤ x ∧ x ≤ 20) with
          | false =>
            have HF : Hid (seatsTo ss n = false) := seatsTo_false (m := k) (by rw [HSA.out, h1]; simp) hlt
            go_wp2
            have hS0 : (Cs4 wr ⟨wq.heap.size, 0, none⟩ (.int .i64 x) ⟨wq.heap.size, 1, none⟩ (.int .i64 y) ⟨w.heap.size, 2, none⟩ (.slice (some ⟨g', 0, none⟩) n c') ⟨wq.heap.size, 0, none⟩ (.int .i64 x)) (wq.alloc (sb x y)).drew := ⟨b0, b1, f2, b0, hQa.drew⟩
            have hSN := SW.some hS0
            have hS1 := fun s : SW (Cs4 wr ⟨wq.heap.size, 0, none⟩ (.int .i64 x) ⟨wq.heap.size, 1, none⟩ (.int .i64 y) ⟨w.heap.size, 2, none⟩ (.slice (some ⟨g', 0, none⟩) n c') ⟨wq.heap.size, 0, none⟩ (.int .i64 x)) => s.is.1
            have hS2 := fun s : SW (Cs4 wr ⟨wq.heap.size, 0, none⟩ (.int .i64 x) ⟨wq.heap.size, 1, none⟩ (.int .i64 y) ⟨w.heap.size, 2, none⟩ (.slice (some ⟨g', 0, none⟩) n c') ⟨wq.heap.size, 0, none⟩ (.int .i64 x)) => s.is.2.1
            have hS3 := fun s : SW (Cs4 wr ⟨wq.heap.size, 0, none⟩ (.int .i64 x) ⟨wq.heap.size, 1, none⟩ (.int .i64 y) ⟨w.heap.size, 2, none⟩ (.slice (some ⟨g', 0, none⟩) n c') ⟨wq.heap.size, 0, none⟩ (.int .i64 x)) => s.is.2.2.1
            have hS4 := fun s : SW (Cs4 wr ⟨wq.heap.size, 0, none⟩ (.int .i64 x) ⟨wq.heap.size, 1, none⟩ (.int .i64 y) ⟨w.heap.size, 2, none⟩ (.slice (some ⟨g', 0, none⟩) n c') ⟨wq.heap.size, 0, none⟩ (.int .i64 x)) => s.is.2.2.2.1
            refine wp_region_S (Cs4 wr ⟨wq.heap.size, 0, none⟩ (.int .i64 x) ⟨wq.heap.size, 1, none⟩ (.int .i64 y) ⟨w.heap.size, 2, none⟩ (.slice (some ⟨g', 0, none⟩) n c') ⟨wq.heap.size, 0, none⟩ (.int .i64 x)) (by kernel_rfl) (by kernel_rfl) hS0 ?_
            repeat (go_big_quiet_step ((rename_i s0; go_at_call 57; refine (l1In_at _ _ _ s0).mono ?_; rintro e w' ⟨rfl, rfl⟩; rw [h1]; exact ⟨rfl, ⟨s0, rfl⟩⟩)))
            refine wpQuiet_nil ?_
            rintro _ ⟨s, rfl⟩
            obtain ⟨q1, q2, q3, q4, hQf⟩ := s.is
            clear hS0 hSN hS1 hS2 hS3 hS4 b0 b1 f2 hQa
            generalize s.w = wz at *
            go_wp2
            go_ret
            exact ⟨by show Ending.returned (.bool false) = _; rw [HV.out, HF.out], more hB hQf⟩

          | true =>
            by_cases hk0 : k = 0
            · subst hk0
              cases h2 : decide (8 ≤ y ∧ y ≤ 15) with
              | false =>
                have HF : Hid (seatsTo ss n = false) := seatsTo_false (m := 0) (by rw [HSA.out, h2]; simp) hlt
                go_wp2
                have hS0 : (Cs4 wr ⟨wq.heap.size, 0, none⟩ (.int .i64 x) ⟨wq.heap.size, 1, none⟩ (.int .i64 y) ⟨w.heap.size, 2, none⟩ (.slice (some ⟨g', 0, none⟩) n c') ⟨wq.heap.size, 0, none⟩ (.int .i64 x)) (wq.alloc (sb x y)).drew := ⟨b0, b1, f2, b0, hQa.drew⟩
                have hSN := SW.some hS0
                have hS1 := fun s : SW (Cs4 wr ⟨wq.heap.size, 0, none⟩ (.int .i64 x) ⟨wq.heap.size, 1, none⟩ (.int .i64 y) ⟨w.heap.size, 2, none⟩ (.slice (some ⟨g', 0, none⟩) n c') ⟨wq.heap.size, 0, none⟩ (.int .i64 x)) => s.is.1
                have hS2 := fun s : SW (Cs4 wr ⟨wq.heap.size, 0, none⟩ (.int .i64 x) ⟨wq.heap.size, 1, none⟩ (.int .i64 y) ⟨w.heap.size, 2, none⟩ (.slice (some ⟨g', 0, none⟩) n c') ⟨wq.heap.size, 0, none⟩ (.int .i64 x)) => s.is.2.1
                have hS3 := fun s : SW (Cs4 wr ⟨wq.heap.size, 0, none⟩ (.int .i64 x) ⟨wq.heap.size, 1, none⟩ (.int .i64 y) ⟨w.heap.size, 2, none⟩ (.slice (some ⟨g', 0, none⟩) n c') ⟨wq.heap.size, 0, none⟩ (.int .i64 x)) => s.is.2.2.1
                have hS4 := fun s : SW (Cs4 wr ⟨wq.heap.size, 0, none⟩ (.int .i64 x) ⟨wq.heap.size, 1, none⟩ (.int .i64 y) ⟨w.heap.size, 2, none⟩ (.slice (some ⟨g', 0, none⟩) n c') ⟨wq.heap.size, 0, none⟩ (.int .i64 x)) => s.is.2.2.2.1
                refine wp_region_S (Cs4 wr ⟨wq.heap.size, 0, none⟩ (.int .i64 x) ⟨wq.heap.size, 1, none⟩ (.int .i64 y) ⟨w.heap.size, 2, none⟩ (.slice (some ⟨g', 0, none⟩) n c') ⟨wq.heap.size, 0, none⟩ (.int .i64 x)) (by kernel_rfl) (by kernel_rfl) hS0 ?_
                repeat (go_big_quiet_step ((rename_i s0; go_at_call 57; refine (l1In_at _ _ _ s0).mono ?_; rintro e w' ⟨rfl, rfl⟩; (first | rw [h1] | rw [h2]); exact ⟨rfl, ⟨s0, rfl⟩⟩)))
                refine wpQuiet_nil ?_
                rintro _ ⟨s, rfl⟩
                obtain ⟨q1, q2, q3, q4, hQf⟩ := s.is
                clear hS0 hSN hS1 hS2 hS3 hS4 b0 b1 f2 hQa
                generalize s.w = wz at *
                go_wp2
                go_ret
                exact ⟨by show Ending.returned (.bool false) = _; rw [HV.out, HF.out], more hB hQf⟩

              | true =>
                go_wp2
                have hS0 : (Cs4 wr ⟨wq.heap.size, 0, none⟩ (.int .i64 x) ⟨wq.heap.size, 1, none⟩ (.int .i64 y) ⟨w.heap.size, 2, none⟩ (.slice (some ⟨g', 0, none⟩) n c') ⟨wq.heap.size, 0, none⟩ (.int .i64 x)) (wq.alloc (sb x y)).drew := ⟨b0, b1, f2, b0, hQa.drew⟩
                have hSN := SW.some hS0
                have hS1 := fun s : SW (Cs4 wr ⟨wq.heap.size, 0, none⟩ (.int .i64 x) ⟨wq.heap.size, 1, none⟩ (.int .i64 y) ⟨w.heap.size, 2, none⟩ (.slice (some ⟨g', 0, none⟩) n c') ⟨wq.heap.size, 0, none⟩ (.int .i64 x)) => s.is.1
                have hS2 := fun s : SW (Cs4 wr ⟨wq.heap.size, 0, none⟩ (.int .i64 x) ⟨wq.heap.size, 1, none⟩ (.int .i64 y) ⟨w.heap.size, 2, none⟩ (.slice (some ⟨g', 0, none⟩) n c') ⟨wq.heap.size, 0, none⟩ (.int .i64 x)) => s.is.2.1
                have hS3 := fun s : SW (Cs4 wr ⟨wq.heap.size, 0, none⟩ (.int .i64 x) ⟨wq.heap.size, 1, none⟩ (.int .i64 y) ⟨w.heap.size, 2, none⟩ (.slice (some ⟨g', 0, none⟩) n c') ⟨wq.heap.size, 0, none⟩ (.int .i64 x)) => s.is.2.2.1
                have hS4 := fun s : SW (Cs4 wr ⟨wq.heap.size, 0, none⟩ (.int .i64 x) ⟨wq.heap.size, 1, none⟩ (.int .i64 y) ⟨w.heap.size, 2, none⟩ (.slice (some ⟨g', 0, none⟩) n c') ⟨wq.heap.size, 0, none⟩ (.int .i64 x)) => s.is.2.2.2.1
                refine wp_region_S (Cs4 wr ⟨wq.heap.size, 0, none⟩ (.int .i64 x) ⟨wq.heap.size, 1, none⟩ (.int .i64 y) ⟨w.heap.size, 2, none⟩ (.slice (some ⟨g', 0, none⟩) n c') ⟨wq.heap.size, 0, none⟩ (.int .i64 x)) (by kernel_rfl) (by kernel_rfl) hS0 ?_
                repeat (go_big_quiet_step ((rename_i s0; go_at_call 57; refine (l1In_at _ _ _ s0).mono ?_; rintro e w' ⟨rfl, rfl⟩; (first | rw [h1] | rw [h2]); exact ⟨rfl, ⟨s0, rfl⟩⟩)))
                refine wpQuiet_nil ?_
                rintro _ ⟨s, rfl⟩
                obtain ⟨q1, q2, q3, q4, hQf⟩ := s.is
                clear hS0 hSN hS1 hS2 hS3 hS4 b0 b1 f2 hQa
                generalize s.w = wz at *
                have HQ : Hid (Below wr.heap.size wr wz) := hQf
                have hsl : wz.cell? ⟨w.heap.size, 2, none⟩ = some (.slice (some ⟨g', 0, none⟩) n c') := q3
                clear q1 q3 q4
                go_wp2
                have HF : Hid (seatsTo ss 1 = true) := by
                  show seatsTo ss (0 + 1) = true
                  rw [seatsTo_succ, HP.out, HSA.out, h1, h2]; rfl
                refine wp_loop_rounds 1 ?_
                rw [rounds_succ]
                go_wp2
                go_roundw
                case rel => exact ⟨1, by omega, by go_num, HF.out, HQ.out⟩
                case measure => simp [intOf]; omega
            · obtain ⟨m, rfl⟩ : ∃ m, k = m + 1 := ⟨k - 1, by omega⟩
              have a3 := (HKS.out m (by omega)).1
              simp only [Nat.zero_add] at a3
              have c3 := cell_since a3 hQ
              have HM : Hid ((kAt ss (m + 1 - 1)).1 = ss[m].1) := by show (kAt ss (m + 1 - 1)).1 = _; rw [Nat.add_sub_cancel, kAt_get ss m (by omega)]
              clear a3
              generalize ss[m].1 = z at c3 HM
              have f3 := cell_since c3 (one_below wq (sb x y))
              by_cases hz : z < x
              · have hz' : decide (x ≤ z) = false := decide_eq_false (by omega)
                cases h2 : decide (8 ≤ y ∧ y ≤ 15) with
                | false =>
                  have HF : Hid (seatsTo ss n = false) := seatsTo_false (m := m + 1) (by rw [HSA.out, h2]; simp) hlt
                  go_wp2
                  have hS0 : (Cs4 wr ⟨wq.heap.size, 0, none⟩ (.int .i64 x) ⟨wq.heap.size, 1, none⟩ (.int .i64 y) ⟨w.heap.size, 2, none⟩ (.slice (some ⟨g', 0, none⟩) n c') ⟨g', m * 2, none⟩ (.int .i64 z)) (wq.alloc (sb x y)).drew := ⟨b0, b1, f2, f3, hQa.drew⟩
                  have hSN := SW.some hS0
                  have hS1 := fun s : SW (Cs4 wr ⟨wq.heap.size, 0, none⟩ (.int .i64 x) ⟨wq.heap.size, 1, none⟩ (.int .i64 y) ⟨w.heap.size, 2, none⟩ (.slice (some ⟨g', 0, none⟩) n c') ⟨g', m * 2, none⟩ (.int .i64 z)) => s.is.1
                  have hS2 := fun s : SW (Cs4 wr ⟨wq.heap.size, 0, none⟩ (.int .i64 x) ⟨wq.heap.size, 1, none⟩ (.int .i64 y) ⟨w.heap.size, 2, none⟩ (.slice (some ⟨g', 0, none⟩) n c') ⟨g', m * 2, none⟩ (.int .i64 z)) => s.is.2.1
                  have hS3 := fun s : SW (Cs4 wr ⟨wq.heap.size, 0, none⟩ (.int .i64 x) ⟨wq.heap.size, 1, none⟩ (.int .i64 y) ⟨w.heap.size, 2, none⟩ (.slice (some ⟨g', 0, none⟩) n c') ⟨g', m * 2, none⟩ (.int .i64 z)) => s.is.2.2.1
                  have hS4 := fun s : SW (Cs4 wr ⟨wq.heap.size, 0, none⟩ (.int .i64 x) ⟨wq.heap.size, 1, none⟩ (.int .i64 y) ⟨w.heap.size, 2, none⟩ (.slice (some ⟨g', 0, none⟩) n c') ⟨g', m * 2, none⟩ (.int .i64 z)) => s.is.2.2.2.1
                  refine wp_region_S (Cs4 wr ⟨wq.heap.size, 0, none⟩ (.int .i64 x) ⟨wq.heap.size, 1, none⟩ (.int .i64 y) ⟨w.heap.size, 2, none⟩ (.slice (some ⟨g', 0, none⟩) n c') ⟨g', m * 2, none⟩ (.int .i64 z)) (by kernel_rfl) (by kernel_rfl) hS0 ?_
                  repeat (go_big_quiet_step ((rename_i s0; go_at_call 57; refine (l1In_at _ _ _ s0).mono ?_; rintro e w' ⟨rfl, rfl⟩; (first | rw [h1] | rw [h2]); exact ⟨rfl, ⟨s0, rfl⟩⟩)))
                  refine wpQuiet_nil ?_
                  rintro _ ⟨s, rfl⟩
                  obtain ⟨q1, q2, q3, q4, hQf⟩ := s.is
                  clear hS0 hSN hS1 hS2 hS3 hS4 b0 b1 f2 hQa
                  generalize s.w = wz at *
                  go_wp2
                  go_ret
                  exact ⟨by show Ending.returned (.bool false) = _; rw [HV.out, HF.out], more hB hQf⟩

                | true =>
                  go_wp2
                  have hS0 : (Cs4 wr ⟨wq.heap.size, 0, none⟩ (.int .i64 x) ⟨wq.heap.size, 1, none⟩ (.int .i64 y) ⟨w.heap.size, 2, none⟩ (.slice (some ⟨g', 0, none⟩) n c') ⟨g', m * 2, none⟩ (.int .i64 z)) (wq.alloc (sb x y)).drew := ⟨b0, b1, f2, f3, hQa.drew⟩
                  have hSN := SW.some hS0
                  have hS1 := fun s : SW (Cs4 wr ⟨wq.heap.size, 0, none⟩ (.int .i64 x) ⟨wq.heap.size, 1, none⟩ (.int .i64 y) ⟨w.heap.size, 2, none⟩ (.slice (some ⟨g', 0, none⟩) n c') ⟨g', m * 2, none⟩ (.int .i64 z)) => s.is.1
                  have hS2 := fun s : SW (Cs4 wr ⟨wq.heap.size, 0, none⟩ (.int .i64 x) ⟨wq.heap.size, 1, none⟩ (.int .i64 y) ⟨w.heap.size, 2, none⟩ (.slice (some ⟨g', 0, none⟩) n c') ⟨g', m * 2, none⟩ (.int .i64 z)) => s.is.2.1
                  have hS3 := fun s : SW (Cs4 wr ⟨wq.heap.size, 0, none⟩ (.int .i64 x) ⟨wq.heap.size, 1, none⟩ (.int .i64 y) ⟨w.heap.size, 2, none⟩ (.slice (some ⟨g', 0, none⟩) n c') ⟨g', m * 2, none⟩ (.int .i64 z)) => s.is.2.2.1
                  have hS4 := fun s : SW (Cs4 wr ⟨wq.heap.size, 0, none⟩ (.int .i64 x) ⟨wq.heap.size, 1, none⟩ (.int .i64 y) ⟨w.heap.size, 2, none⟩ (.slice (some ⟨g', 0, none⟩) n c') ⟨g', m * 2, none⟩ (.int .i64 z)) => s.is.2.2.2.1
                  refine wp_region_S (Cs4 wr ⟨wq.heap.size, 0, none⟩ (.int .i64 x) ⟨wq.heap.size, 1, none⟩ (.int .i64 y) ⟨w.heap.size, 2, none⟩ (.slice (some ⟨g', 0, none⟩) n c') ⟨g', m * 2, none⟩ (.int .i64 z)) (by kernel_rfl) (by kernel_rfl) hS0 ?_
                  repeat (go_big_quiet_step ((rename_i s0; go_at_call 57; refine (l1In_at _ _ _ s0).mono ?_; rintro e w' ⟨rfl, rfl⟩; (first | rw [h1] | rw [h2]); exact ⟨rfl, ⟨s0, rfl⟩⟩)))
                  refine wpQuiet_nil ?_
                  rintro _ ⟨s, rfl⟩
                  obtain ⟨q1, q2, q3, q4, hQf⟩ := s.is
                  clear hS0 hSN hS1 hS2 hS3 hS4 b0 b1 f2 hQa
                  generalize s.w = wz at *
                  have HQ : Hid (Below wr.heap.size wr wz) := hQf
                  have hsl : wz.cell? ⟨w.heap.size, 2, none⟩ = some (.slice (some ⟨g', 0, none⟩) n c') := q3
                  clear q1 q3 q4
                  go_wp2
                  go_loopw [6] (fun i wi => ∃ j : Nat, j ≤ (m + 1) ∧ i = .int .i64 (j : Int) ∧ Hid (takenB ss j y = false) ∧ ∃ q, wi = wz.drewN q) (fun i _ => (m + 1) - (intOf i).toNat)
                  case atStart => exact ⟨0, by omega, rfl, rfl, 0, rfl⟩
                  case round =>
                    obtain ⟨j, hj, rfl, HJ, q, rfl⟩ := hrel
                    by_cases hjk : j < (m + 1)
                    · have hjl : j < ss.length := by omega
                      have r2 := (HKS.out j hjl).2
                      simp only [Nat.zero_add] at r2
                      have u2 := cell_since r2 hQf
                      have HU : Hid ((kAt ss j).2 = ss[j].2) := by show (kAt ss j).2 = _; rw [kAt_get ss j hjl]
                      clear r2
                      generalize ss[j].2 = t at u2 HU
                      by_cases ht : t = y
                      · have ht' : (t == y) = true := by simpa using ht
                        have HF : Hid (seatsTo ss n = false) := seatsTo_false (m := (m + 1)) (by rw [HSA.out, takenB_true (HU.out.trans ht) hjk]; simp) hlt
                        subst ht
                        go_wp2
                        go_quiet (fail)
                        go_wp2
                        go_ret
                        exact ⟨by show Ending.returned (.bool false) = _; rw [HV.out, HF.out], below_drewN2 (below_drewN2 (more hB HQ.out) _) _⟩
                      · have ht' : (t == y) = false := by simpa using ht
                        have HF : Hid (takenB ss (j + 1) y = false) := by show takenB ss (j + 1) y = false; rw [takenB_succ, HJ.out, HU.out]; simp [ht]
                        go_wp2
                        go_quiet (fail)
                        go_wp2
                        go_roundw
                        case rel => exact ⟨j + 1, by omega, by go_num, HF.out, q + nq, by simp⟩
                        case measure => simp [intOf]; omega
                    · have hje : j = (m + 1) := by omega
                      have HF : Hid (seatsTo ss ((m + 1) + 1) = true) := by
                        show seatsTo ss ((m + 1) + 1) = true
                        have := HJ.out
                        rw [hje] at this
                        rw [seatsTo_succ, HP.out, HSA.out, HM.out, this, h1, h2]; simp [hz]
                      go_wp2
                      go_roundw
                      case rel => exact ⟨(m + 1) + 1, by omega, by go_num, HF.out, below_drewN2 HQ.out _⟩
                      case measure => simp [intOf]; omega

              · have hz' : x ≤ z := by omega
                have HF : Hid (seatsTo ss n = false) := seatsTo_false (m := m + 1) (by rw [HSA.out, HM.out]; simp [hz]) hlt
                go_wp2
                have hS0 : (Cs4 wr ⟨wq.heap.size, 0, none⟩ (.int .i64 x) ⟨wq.heap.size, 1, none⟩ (.int .i64 y) ⟨w.heap.size, 2, none⟩ (.slice (some ⟨g', 0, none⟩) n c') ⟨g', m * 2, none⟩ (.int .i64 z)) (wq.alloc (sb x y)).drew := ⟨b0, b1, f2, f3, hQa.drew⟩
                have hSN := SW.some hS0
                have hS1 := fun s : SW (Cs4 wr ⟨wq.heap.size, 0, none⟩ (.int .i64 x) ⟨wq.heap.size, 1, none⟩ (.int .i64 y) ⟨w.heap.size, 2, none⟩ (.slice (some ⟨g', 0, none⟩) n c') ⟨g', m * 2, none⟩ (.int .i64 z)) => s.is.1
                have hS2 := fun s : SW (Cs4 wr ⟨wq.heap.size, 0, none⟩ (.int .i64 x) ⟨wq.heap.size, 1, none⟩ (.int .i64 y) ⟨w.heap.size, 2, none⟩ (.slice (some ⟨g', 0, none⟩) n c') ⟨g', m * 2, none⟩ (.int .i64 z)) => s.is.2.1
                have hS3 := fun s : SW (Cs4 wr ⟨wq.heap.size, 0, none⟩ (.int .i64 x) ⟨wq.heap.size, 1, none⟩ (.int .i64 y) ⟨w.heap.size, 2, none⟩ (.slice (some ⟨g', 0, none⟩) n c') ⟨g', m * 2, none⟩ (.int .i64 z)) => s.is.2.2.1
                have hS4 := fun s : SW (Cs4 wr ⟨wq.heap.size, 0, none⟩ (.int .i64 x) ⟨wq.heap.size, 1, none⟩ (.int .i64 y) ⟨w.heap.size, 2, none⟩ (.slice (some ⟨g', 0, none⟩) n c') ⟨g', m * 2, none⟩ (.int .i64 z)) => s.is.2.2.2.1
                refine wp_region_S (Cs4 wr ⟨wq.heap.size, 0, none⟩ (.int .i64 x) ⟨wq.heap.size, 1, none⟩ (.int .i64 y) ⟨w.heap.size, 2, none⟩ (.slice (some ⟨g', 0, none⟩) n c') ⟨g', m * 2, none⟩ (.int .i64 z)) (by kernel_rfl) (by kernel_rfl) hS0 ?_
                repeat (go_big_quiet_step ((rename_i s0; go_at_call 57; refine (l1In_at _ _ _ s0).mono ?_; rintro e w' ⟨rfl, rfl⟩; rw [h1]; exact ⟨rfl, ⟨s0, rfl⟩⟩)))
                refine wpQuiet_nil ?_
                rintro _ ⟨s, rfl⟩
                obtain ⟨q1, q2, q3, q4, hQf⟩ := s.is
                clear hS0 hSN hS1 hS2 hS3 hS4 b0 b1 f2 hQa
                generalize s.w = wz at *
                go_wp2
                go_ret
                exact ⟨by show Ending.returned (.bool false) = _; rw [HV.out, HF.out], more hB hQf⟩

        · have : k = n := by omega
          subst this
          go_wp2
          go_ret
          exact ⟨by show Ending.returned (.bool true) = _; rw [HV.out, HP.out], more hB hQ⟩

end Go.Proofs.YtapmgbnhobpahaaGreatDoor
/- What the exact laws' helpers on servers do: szServer, toServer, eqServer. -/
namespace Go.Proofs.YtapmgbnhobpahaaGreatDoor
open Go.RowKit

theorem hidOf' {p : Prop} (h : p) : Hid p := h
def szV (l : Int) (n m : Nat) : Int := if l - (n : Int) < 0 then -1 else if l - (n : Int) - (m : Int) < 0 then -1 else l - (n : Int) - (m : Int)
/-- A server, as an answer: its numbers and its seats lie in memory of their own, apart. -/
def SrvIs (B : Nat) (x y : Value) (vs : List Int) (ss : List (Int × Int)) (W : World) : Prop := Ints B x vs W ∧ Seats B y ss W ∧ ∀ k, x.ownBlock = some k → y.ownBlock ≠ some k
theorem SrvIs.since {B : Nat} {x y : Value} {vs : List Int} {ss : List (Int × Int)} {W W' : World} (h : SrvIs B x y vs ss W) (hb : Below W.heap.size W W') : SrvIs B x y vs ss W' := ⟨h.1.since hb, h.2.1.since hb, h.2.2⟩

def sameS (ep : Int) (vs : List Int) (ss : List (Int × Int)) (ep' : Int) (vs' : List Int) (ss' : List (Int × Int)) : Bool := decide (ep = ep') && (eqI vs vs' && eqL ss ss')
theorem sameS_self (ep : Int) (vs : List Int) (ss : List (Int × Int)) : sameS ep vs ss ep vs ss = true := by simp [sameS, eqI, eqL]

end Go.Proofs.YtapmgbnhobpahaaGreatDoor
/- A node's key: l3Key, keyAt, KeyAt of the program and of the model. -/
namespace Go.Proofs.YtapmgbnhobpahaaGreatDoor
open Go.RowKit

theorem serverB_len {ep : Int} {vs : List Int} {ss : List (Int × Int)} (h : serverB ep vs ss = true) : vs.length = 15 := by
  simp [serverB, versB] at h
  exact h.2.1.1
def atB (ep : Int) (vs : List Int) (ss : List (Int × Int)) (node : Int) : Bool := serverB ep vs ss && decide (1 ≤ node ∧ node ≤ 15)
def atK (ep : Int) (vs : List Int) (ss : List (Int × Int)) (node : Int) : Int × Int := if (serverB ep vs ss && decide (1 ≤ node ∧ node ≤ 15)) = true then (node, vAt vs (node - 1).toNat) else (0, 0)

set_option maxHeartbeats 1000000 in
theorem l3Key_any {B : Nat} {x y : Value} {vs : List Int} {w : World} (ep : Int) (j : Nat) (hj : j < 15) (hl : vs.length = 15) (hx : Ints B x vs w) :
    Calls Tryz.prog 96 #[svv ep x y, .int .i64 ((j : Int) + 1)] w fun e w' => e = .returned (kv ((j : Int) + 1) (vAt vs j)) ∧ Below w.heap.size w w' := by
  have hB2 := two_below w (svb ep x y) (kb 0 0)
  obtain ⟨a, c, hv, _, hrow⟩ := (hx.since (one_below w (svb ep x y))).row
  subst hv
  rw [hl]
  rw [hl] at hB2
  obtain ⟨g, rfl, hg, hseg⟩ : ∃ g, a = some ⟨g, 0, none⟩ ∧ g < (w.alloc (svb ep (.slice a vs.length c) y)).heap.size ∧ ISeg g 0 vs (w.alloc (svb ep (.slice a vs.length c) y)) := by
    rcases hrow with e | e
    · rw [e] at hl; simp at hl
    · exact e
  rw [hl] at hg hseg
  obtain ⟨c0, c1, c2⟩ := scell3 w ep (.slice (some ⟨g, 0, none⟩) 15 c) y
  have d1 := cell_since c1 (one_below _ (kb 0 0))
  have a1 := hseg j (by omega)
  rw [Nat.zero_add] at a1
  have e1 := cell_since a1 (one_below _ (kb 0 0))
  rw [vAt_get vs j (by omega)]
  generalize vs[j] = z at a1 e1
  clear hx hrow hseg c0 c2
  go_enter Tryz.func96, Tryz.ntmps96
  go_wp2
  exact bodyPost_ret (v := kv ((j : Int) + 1) z) (by simp [results, Tryz.results96, go_sem]) rfl ⟨rfl, two_below w _ _⟩

end Go.Proofs.YtapmgbnhobpahaaGreatDoor
/- Where a member sits: leafOf of the program, l3Leaf of the model. -/
namespace Go.Proofs.YtapmgbnhobpahaaGreatDoor
open Go.RowKit

def seatOf (ss : List (Int × Int)) (m : Int) : Option Int := (ss.find? (fun s => decide (s.1 = m))).map Prod.snd
def leafV (ss : List (Int × Int)) (m : Int) : Int := (seatOf ss m).getD 0
theorem kAt_succ (s : Int × Int) (ss : List (Int × Int)) (j : Nat) : kAt (s :: ss) (j + 1) = kAt ss j := by simp [kAt]
theorem seatOf_hit : ∀ (ss : List (Int × Int)) (m : Int) (k : Nat), (∀ j, j < k → (kAt ss j).1 ≠ m) → k < ss.length → (kAt ss k).1 = m → seatOf ss m = some (kAt ss k).2
  | [], _, _, _, h, _ => by simp at h
  | s :: ss, m, 0, _, _, h => by
    have e : kAt (s :: ss) 0 = s := by simp [kAt]
    rw [e] at h ⊢
    simp [seatOf, h]
  | s :: ss, m, k + 1, h1, h2, h3 => by
    have h0 : (kAt (s :: ss) 0).1 ≠ m := h1 0 (by omega)
    have e : kAt (s :: ss) 0 = s := by simp [kAt]
    rw [e] at h0
    rw [kAt_succ] at h3 ⊢
    have := seatOf_hit ss m k (fun j hj => by have := h1 (j + 1) (by omega); rwa [kAt_succ] at this) (by simpa using h2) h3
    rw [← this]
    simp [seatOf, h0]
theorem seatOf_none : ∀ (ss : List (Int × Int)) (m : Int), (∀ j, j < ss.length → (kAt ss j).1 ≠ m) → seatOf ss m = none
  | [], _, _ => rfl
  | s :: ss, m, h => by
    have h0 : (kAt (s :: ss) 0).1 ≠ m := h 0 (by simp)
    have e : kAt (s :: ss) 0 = s := by simp [kAt]
    rw [e] at h0
    have := seatOf_none ss m (fun j hj => by have := h (j + 1) (by simpa using hj); rwa [kAt_succ] at this)
    rw [← this]
    simp [seatOf, h0]
theorem seatOf_mem {ss : List (Int × Int)} {m l : Int} (h : seatOf ss m = some l) : ∃ k, k < ss.length ∧ (kAt ss k).2 = l := by
  unfold seatOf at h
  obtain ⟨s, hs, rfl⟩ := Option.map_eq_some_iff.1 h
  obtain ⟨k, hk, e⟩ := List.getElem_of_mem (List.mem_of_find?_eq_some hs)
  exact ⟨k, hk, by rw [kAt_get ss k hk, e]⟩
theorem seatOf_leaf {ep : Int} {vs : List Int} {ss : List (Int × Int)} {m l : Int} (h : serverB ep vs ss = true) (hs : seatOf ss m = some l) : 8 ≤ l ∧ l ≤ 15 := by
  obtain ⟨k, hk, rfl⟩ := seatOf_mem hs
  unfold serverB seatsB seatsTo at h
  simp only [Bool.and_eq_true, List.all_eq_true] at h
  have := h.2.2.2 k (List.mem_range.2 hk)
  unfold seatAt at this
  simp only [Bool.and_eq_true, decide_eq_true_eq] at this
  exact this.2.1

set_option maxHeartbeats 1000000 in
theorem l3Leaf_any {C : Nat} {x y : Value} {ss : List (Int × Int)} {w : World} (ep m : Int) (hy : Seats C y ss w) :
    Calls Tryz.prog 79 #[svv ep x y, .int .i64 m] w fun e w' => e = .returned (.int .i64 (leafV ss m)) ∧ Below w.heap.size w w' := by
  have hB1 := one_below w (svb ep x y)
  obtain ⟨a, c, hv, hm, hrow⟩ := (hy.since hB1).row
  subst hv
  obtain ⟨c0, c1, c2⟩ := scell3 w ep x (.slice a ss.length c)
  have HR := hidOf' hrow
  clear hrow hy
  unfold maxLen at hm
  generalize hn : ss.length = n at *
  go_enter Tryz.func79, Tryz.ntmps79
  go_wp2
  generalize w.alloc (svb ep x (.slice a n c)) = w1 at *
  go_loopw [5] (fun i wr => ∃ k : Nat, i = .int .i64 (k : Int) ∧ k ≤ n ∧ Hid (∀ j, j < k → (kAt ss j).1 ≠ m) ∧ wr = w1) (fun i _ => n - (intOf i).toNat)
  case atStart => exact ⟨0, rfl, Nat.zero_le _, fun j hj => absurd hj (Nat.not_lt_zero _), rfl⟩
  case round =>
    obtain ⟨k, rfl, hkn, HP, hwr⟩ := hrel
    subst hwr
    by_cases hlt : k < n
    · have hlk : k < ss.length := by omega
      obtain ⟨g, ha, hg, hseg⟩ : ∃ g, a = some ⟨g, 0, none⟩ ∧ g < wr.heap.size ∧ KSeg g 0 ss wr := by
        rcases HR.out with e | e
        · rw [e] at hlk; simp at hlk
        · exact e
      subst ha
      obtain ⟨e1, e2⟩ := hseg k hlk
      simp only [Nat.zero_add] at e1 e2
      have HK := hidOf' (kAt_get ss k hlk)
      clear hseg
      obtain ⟨p, q, hpq⟩ : ∃ p q, ss[k] = (p, q) := ⟨_, _, rfl⟩
      rw [hpq] at e1 e2 HK
      clear hpq
      by_cases hp : p = m
      · have hp' : (p == m) = true := by simpa using hp
        have HH := hidOf' (seatOf_hit ss m k HP.out hlk (by rw [HK.out]; exact hp))
        subst hp
        go_wp2
        go_ret
        have h1 := HH.out
        rw [HK.out] at h1
        exact ⟨by unfold leafV; rw [h1]; rfl, hB1⟩
      · have hp' : (p == m) = false := by simpa using hp
        have HN := hidOf' (show ∀ j, j < k + 1 → (kAt ss j).1 ≠ m from fun j hj => by
          by_cases e : j < k
          · exact HP.out j e
          · obtain rfl : j = k := by omega
            rw [HK.out]; exact hp)
        go_wp2
        go_roundw
        case rel => exact ⟨k + 1, by go_num, by omega, HN.out, trivial⟩
        case measure => simp [intOf] <;> omega
    · obtain rfl : k = n := by omega
      have HN := hidOf' (seatOf_none ss m (fun j hj => HP.out j (by omega)))
      go_wp2
      go_ret
      exact ⟨by unfold leafV; rw [HN.out]; rfl, hB1⟩
end Go.Proofs.YtapmgbnhobpahaaGreatDoor
/- Four keys turned round in place: slices.Reverse. -/
namespace Go.Proofs.YtapmgbnhobpahaaGreatDoor
open Go.RowKit

theorem Keys.cells4 {B g cap : Nat} {ks : List (Int × Int)} {W : World} (h : Keys B (.slice (some ⟨g, 0, none⟩) 4 cap) ks W) : KSeg g 0 ks W ∧ ∀ o, W.frozen? ⟨g, o, none⟩ = false := by
  rcases h.form with ⟨e, _⟩ | ⟨g', cap', e, _, _, _, _, h3, h4⟩
  · cases e
  · injection e with e
    injection e with e
    injection e with e
    subst e
    exact ⟨h3, h4⟩
theorem four_cells {B g cap : Nat} {a b c d : Int × Int} {W : World} (h : Keys B (.slice (some ⟨g, 0, none⟩) 4 cap) [a, b, c, d] W) :
    (W.cell? ⟨g, 0, none⟩ = some (.int .i64 a.1) ∧ W.cell? ⟨g, 1, none⟩ = some (.int .i64 a.2)) ∧ (W.cell? ⟨g, 2, none⟩ = some (.int .i64 b.1) ∧ W.cell? ⟨g, 3, none⟩ = some (.int .i64 b.2)) ∧ (W.cell? ⟨g, 4, none⟩ = some (.int .i64 c.1) ∧ W.cell? ⟨g, 5, none⟩ = some (.int .i64 c.2)) ∧ (W.cell? ⟨g, 6, none⟩ = some (.int .i64 d.1) ∧ W.cell? ⟨g, 7, none⟩ = some (.int .i64 d.2)) := by
  obtain ⟨hs, _⟩ := h.cells4
  have h0 := hs 0 (by simp)
  have h1 := hs 1 (by simp)
  have h2 := hs 2 (by simp)
  have h3 := hs 3 (by simp)
  exact ⟨h0, h1, h2, h3⟩

end Go.Proofs.YtapmgbnhobpahaaGreatDoor
/- Contracts of the program's tree of parents: newTree, isNode. -/
namespace Go.Proofs.YtapmgbnhobpahaaGreatDoor
open Go.RowKit

abbrev treeCells : Array Value := #[.int .i64 0, .int .i64 0, .int .i64 1, .int .i64 1, .int .i64 2, .int .i64 2, .int .i64 3, .int .i64 3, .int .i64 4, .int .i64 4, .int .i64 5, .int .i64 5, .int .i64 6, .int .i64 6, .int .i64 7, .int .i64 7]
def par (k : Nat) : Int := if k < 2 then 0 else (k : Int) / 2
theorem info64 : (Tryz.prog.info? 2).map (fun i => (i.zero, i.size, i.bytes)) = some (some (.int .i64 0), 1, 8) := by kernel_rfl
theorem l1In_any (n lo hi : Int) (w : World) :
    Calls Tryz.prog 57 #[.int .i64 n, .int .i64 lo, .int .i64 hi] w fun e w' => e = .returned (.bool (decide (lo ≤ n ∧ n ≤ hi))) ∧ w' = w := by
  by_cases h1 : lo ≤ n
  · by_cases h2 : n ≤ hi
    · rw [decide_eq_true ⟨h1, h2⟩]
      go_enter Tryz.func57, Tryz.ntmps57
      go_wp2
      go_ret
      exact ⟨by simp, rfl⟩
    · rw [decide_eq_false (fun h => h2 h.2)]
      go_enter Tryz.func57, Tryz.ntmps57
      go_wp2
      go_ret
      exact ⟨by simp, rfl⟩
  · rw [decide_eq_false (fun h => h1 h.1)]
    go_enter Tryz.func57, Tryz.ntmps57
    go_wp2
    go_ret
    exact ⟨rfl, rfl⟩

theorem isNode_any (n : Int) (w : World) :
    Calls Tryz.prog 85 #[.int .i64 n] w fun e w' => e = .returned (.bool (decide (1 ≤ n ∧ n ≤ 15))) ∧ w' = w := by
  by_cases h1 : 1 ≤ n
  · by_cases h2 : n ≤ 15
    · rw [decide_eq_true ⟨h1, h2⟩]
      go_enter Tryz.func85, Tryz.ntmps85
      go_wp2
      go_ret
      exact ⟨by simp, rfl⟩
    · rw [decide_eq_false (fun h => h2 h.2)]
      go_enter Tryz.func85, Tryz.ntmps85
      go_wp2
      go_ret
      exact ⟨by simp, rfl⟩
  · rw [decide_eq_false (fun h => h1 h.1)]
    go_enter Tryz.func85, Tryz.ntmps85
    go_wp2
    go_ret
    exact ⟨rfl, rfl⟩

end Go.Proofs.YtapmgbnhobpahaaGreatDoor
/- Contracts of the walk up the tree, by a range over a function: PathOf and isOnPath of the program, PathOf of the model. -/
namespace Go.Proofs.YtapmgbnhobpahaaGreatDoor
open Go.RowKit Go.Shelf
attribute [local go_sem] Oper.semAt_some

/-- The way from m to the root; none from 0 on. -/
def pathF : Nat → Nat → List Int
  | 0, _ => []
  | f + 1, m => if m = 0 then [] else (m : Int) :: pathF f (m / 2)
def path (n : Int) : List Int := if 1 ≤ n ∧ n ≤ 15 then pathF 5 n.toNat else []
theorem pathF_step (m : Nat) (h0 : 0 < m) (h1 : m ≤ 15) : pathF 5 m = (m : Int) :: pathF 5 (m / 2) := by
  have : m = 1 ∨ m = 2 ∨ m = 3 ∨ m = 4 ∨ m = 5 ∨ m = 6 ∨ m = 7 ∨ m = 8 ∨ m = 9 ∨ m = 10 ∨ m = 11 ∨ m = 12 ∨ m = 13 ∨ m = 14 ∨ m = 15 := by omega
  rcases this with rfl | rfl | rfl | rfl | rfl | rfl | rfl | rfl | rfl | rfl | rfl | rfl | rfl | rfl | rfl <;> decide
theorem pathF_len (m : Nat) (h1 : m ≤ 15) : (pathF 5 m).length ≤ 4 := by
  have : m = 0 ∨ m = 1 ∨ m = 2 ∨ m = 3 ∨ m = 4 ∨ m = 5 ∨ m = 6 ∨ m = 7 ∨ m = 8 ∨ m = 9 ∨ m = 10 ∨ m = 11 ∨ m = 12 ∨ m = 13 ∨ m = 14 ∨ m = 15 := by omega
  rcases this with rfl | rfl | rfl | rfl | rfl | rfl | rfl | rfl | rfl | rfl | rfl | rfl | rfl | rfl | rfl | rfl <;> decide
theorem path_len (n : Int) : (path n).length ≤ 4 := by
  unfold path
  split
  · exact pathF_len _ (by omega)
  · simp
theorem par_half (m : Nat) (h0 : 0 < m) : par m = ((m / 2 : Nat) : Int) := by
  unfold par
  split
  · obtain rfl : m = 1 := by omega
    rfl
  · omega

/-- What the iterator reads: the node's box and the tree's. -/
def KpT (bn bt : Nat) (A B : World) : Prop := B.heap[bn]? = A.heap[bn]? ∧ B.heap[bt]? = A.heap[bt]?
theorem KpT.trans {bn bt : Nat} {A B C : World} (h : KpT bn bt A B) (k : KpT bn bt B C) : KpT bn bt A C := ⟨k.1.trans h.1, k.2.trans h.2⟩
theorem KpT.book {bn bt : Nat} {w : World} (hn : bn < w.heap.size) (ht : bt < w.heap.size) (W : World) (l : Nat) (o o' : Obj) (hl : w.heap.size ≤ l) (h : W.heap[l]? = some o) (_ : o.isCells = false) (_ : o.isWalk = false) : KpT bn bt W (W.putObj l o') := by
  have hW := (Array.getElem?_eq_some_iff.1 h).1
  have hg := grownBy_putObj' W l o'
  exact ⟨hg.block bn (by omega) (by simp; omega), hg.block bt (by omega) (by simp; omega)⟩

theorem ownsRow_mono {W : World} {b b' : Nat} {e : TypeId} {s n : Nat} {v : Value} {xs : List Value} (h : W.ownsRow b e s v n xs) (hb : b' ≤ b) : W.ownsRow b' e s v n xs := by
  refine ⟨h.1, ?_⟩
  rcases h.2 with hn | ⟨g, cap, cur, e, hg, rest⟩
  · exact .inl hn
  · exact .inr ⟨g, cap, cur, e, by omega, rest⟩

/-- 'out = append(out, ..)' in a box, the rows at or beyond b1. -/
theorem boxed_appended {W w1 : World} {n₀ B b1 : Nat} {t e : TypeId} {size : Nat} {v v' : Value} {k m : Nat} {xs ys : List Value} {tmp : Obj}
    (hv : Boxed W B t v) (hte : t ≠ e) (hrow : W.ownsRow b1 e size v k xs) (hb1 : b1 ≤ W.heap.size) (hn : n₀ ≤ b1) (hB : n₀ ≤ B)
    (hown' : w1.ownsRow b1 e size v' m ys) (hgrow : (W.alloc tmp).grownBy w1 v.ownBlock) :
    Boxed w1 B t v ∧ Boxed (w1.setCell ⟨B, 0, none⟩ v') B t v' ∧ (w1.setCell ⟨B, 0, none⟩ v').ownsRow b1 e size v' m ys ∧ KeepsOthers W (w1.setCell ⟨B, 0, none⟩ v') ∧ Below n₀ W (w1.setCell ⟨B, 0, none⟩ v') ∧
      ∀ j, j < b1 → j ≠ B → (w1.setCell ⟨B, 0, none⟩ v').heap[j]? = W.heap[j]? := by
  obtain ⟨a1, a2, _, a4, a5⟩ := hv.appended hte (ownsRow_mono hrow hn) (by omega) hB (ownsRow_mono hown' hn) hgrow
  refine ⟨a1, a2, hown'.kept (grownBy_setCell' w1 B v') (.inr (a1.not_row hte hown').symm), a4, a5, fun j hj hne => ?_⟩
  rw [(grownBy_setCell' w1 B v').block j (by have := hgrow.size; simp at this; omega) (by simpa using hne)]
  rw [hgrow.block j (by simp; omega) (fun e => by have := (World.ownsRow.lt hrow j e.symm).1; omega)]
  exact Below.heap_alloc _ _ _ (by omega)
end Go.Proofs.YtapmgbnhobpahaaGreatDoor
/- The contract of PathOf of the program: the way from a node to the root, in new memory. -/
namespace Go.Proofs.YtapmgbnhobpahaaGreatDoor
open Go.RowKit Go.Shelf
attribute [local go_sem] Oper.semAt_some

end Go.Proofs.YtapmgbnhobpahaaGreatDoor
/- KeysFor of the program: the keys of the nodes from a leaf to the root, rising. -/
namespace Go.Proofs.YtapmgbnhobpahaaGreatDoor
open Go.RowKit

def keysOn (vs : List Int) (l : Int) : List (Int × Int) := (path l).map fun n => (n, vAt vs (n.toNat - 1))
theorem path_four {l : Int} (h1 : 8 ≤ l) (h2 : l ≤ 15) : (path l).length = 4 ∧ ∀ i (hi : i < (path l).length), 1 ≤ (path l)[i] ∧ (path l)[i] ≤ 15 := by
  have : l = 8 ∨ l = 9 ∨ l = 10 ∨ l = 11 ∨ l = 12 ∨ l = 13 ∨ l = 14 ∨ l = 15 := by omega
  rcases this with rfl | rfl | rfl | rfl | rfl | rfl | rfl | rfl <;> decide
def kfB (ep : Int) (vs : List Int) (ss : List (Int × Int)) (m : Int) : Bool := serverB ep vs ss && (seatOf ss m).isSome
def kfL (ep : Int) (vs : List Int) (ss : List (Int × Int)) (m : Int) : List (Int × Int) := if kfB ep vs ss m = true then (keysOn vs (leafV ss m)).reverse else []
theorem kf_not {ep : Int} {vs : List Int} {ss : List (Int × Int)} {m : Int} (h : kfB ep vs ss m = false) : kfL ep vs ss m = [] := by unfold kfL; rw [h]; rfl
theorem keysOn_len {vs : List Int} {l : Int} (h : 8 ≤ l ∧ l ≤ 15) : (keysOn vs l).length = 4 := by unfold keysOn; rw [List.length_map]; exact (path_four h.1 h.2).1
theorem keysOn_at {vs : List Int} {l : Int} (k : Nat) (hk : k < (path l).length) : (keysOn vs l).take (k + 1) = (keysOn vs l).take k ++ [((path l)[k], vAt vs ((path l)[k].toNat - 1))] := by
  have hk' : k < (keysOn vs l).length := by unfold keysOn; rw [List.length_map]; exact hk
  rw [List.take_succ_eq_append_getElem hk']
  simp [keysOn]
theorem kfL_len (ep : Int) (vs : List Int) (ss : List (Int × Int)) (m : Int) : (kfL ep vs ss m).length ≤ 4 := by
  unfold kfL
  by_cases h : kfB ep vs ss m = true
  · rw [if_pos h, List.length_reverse]
    unfold kfB at h
    simp only [Bool.and_eq_true] at h
    obtain ⟨l, hl⟩ := Option.isSome_iff_exists.1 h.2
    have := seatOf_leaf h.1 hl
    have e : leafV ss m = l := by unfold leafV; rw [hl]; rfl
    rw [e, keysOn_len this]
    exact Nat.le_refl _
  · rw [if_neg h]; simp
theorem none_keys (B : Nat) (w : World) : Keys B (.slice none 0 0) [] w := ⟨by simp [kcells], .inl ⟨rfl, rfl⟩⟩
theorem keys_since {B : Nat} {v : Value} {ks : List (Int × Int)} {W W' : World} (h : Keys B v ks W) (hb : Below W.heap.size W W') : Keys B v ks W' := h.below hb (fun k e => (h.lt k e).2)
theorem cell_key (W : World) (n v : Int) : ∀ j u, [Value.int .i64 n, Value.int .i64 v][j]? = some u → (W.alloc (.cells #[.int .i64 n, .int .i64 v] 54)).cell? ((⟨W.heap.size, 0, none⟩ : Addr).add j) = some u := by
  intro j u hu
  match j with
  | 0 => simp at hu; subst hu; simp [Addr.add]
  | 1 => simp at hu; subst hu; simp [Addr.add]
  | j + 2 => simp at hu
theorem keys_row {W : World} {B n : Nat} {v : Value} {ys : List Value} {xs : List (Int × Int)} (h : W.ownsRow B 54 2 v n ys) (e : ys = kcells xs) (hn : xs.length = n) : ∃ a c, v = .slice a n c ∧ Keys B (.slice a n c) xs W := by
  subst e hn
  obtain ⟨a, c, hv, _, _⟩ := Keys.row (show Keys B v xs W from h)
  subst hv
  exact ⟨a, c, rfl, h⟩

end Go.Proofs.YtapmgbnhobpahaaGreatDoor
/- The contract of PathOf of the model: the way from a node to the root, in new memory. -/
namespace Go.Proofs.YtapmgbnhobpahaaGreatDoor
open Go.RowKit

set_option maxRecDepth 100000 in
set_option maxHeartbeats 400000 in
theorem specPathOf_any (x : Int) (w : World) :
    Calls Tryz.prog 95 #[.int .i64 x] w fun e w' => ∃ v, e = .returned v ∧ Ints w.heap.size v (path x) w' ∧ Below w.heap.size w w' := by
  obtain ⟨i0, hi, hz0, hz1, hz2⟩ := info_parts info64
  have hI0 : Ints w.heap.size (.slice (some ⟨w.heap.size, 0, none⟩) 0 0) [] (w.alloc (.cells #[] 2)) := World.ownsRow_lit w #[] 0 (Nat.le_refl _) (by decide) rfl
  by_cases hx : 1 ≤ x ∧ x ≤ 15
  · have hd : decide (1 ≤ x ∧ x ≤ 15) = true := decide_eq_true hx
    have hm0 : Hid (x = ((x.toNat : Nat) : Int)) := show x = _ by omega
    have hp : path x = pathF 5 x.toNat := by unfold path; rw [if_pos hx]
    have hlen := path_len x
    rw [hp] at hlen ⊢
    go_enter Tryz.func95, Tryz.ntmps95
    go_wp2_with fail
    refine (l1In_any _ _ _ _).mono ?_
    rintro e w' ⟨rfl, rfl⟩
    rw [hd]
    go_wp2
    go_loopw [0, 3] (fun p v wr => ∃ (pre : List Int) (m : Nat), p = .int .i64 (m : Int) ∧ m ≤ 15 ∧ pathF 5 x.toNat = pre ++ pathF 5 m ∧ Ints w.heap.size v pre wr ∧ Below w.heap.size w wr ∧ w.heap.size ≤ wr.heap.size)
      (fun p _ _ => (intOf p).toNat)
    case atStart => exact ⟨[], x.toNat, by rw [← hm0.out], by omega, rfl, hI0, (Below.refl _ _).alloc (Nat.le_refl _) _, by simp⟩
    case round =>
      obtain ⟨pre, m, rfl, hm, hpre, hI, hB, hsz⟩ := hrel
      by_cases hz : m = 0
      · subst hz
        have e : pre = pathF 5 x.toNat := by rw [hpre]; simp [pathF]
        go_wp2
        go_ret
        exact ⟨_, rfl, by rw [← e]; exact hI, hB⟩
      · have hst := pathF_step m (by omega) hm
        have hpl : pre.length < 4 := by rw [hpre, hst] at hlen; simp at hlen; omega
        have hge : (1 : Int) ≤ (m : Int) := by omega
        have he : pathF 5 x.toNat = pre ++ [(m : Int)] ++ pathF 5 (m / 2) := by rw [hpre, hst]; simp
        have HE : Hid _ := he
        clear he
        clear hpre hst hp hlen
        go_wp2_with (at_builtin; refine wpList_append_own _ rfl _ _ 70 rfl w.heap.size 2 i0 (.int .i64 0) 1 8 Tryz.underlying70 hi hz0 hz1 hz2 rfl (by decide) _ _ _ rfl (World.ownsRow.alloc hI _) ⟨wr.heap.size, 0, none⟩ 1 1 [.int .i64 (m : Int)] rfl rfl (cell_one_new _ _ _) (by simp [Value.oneCell']) (by unfold maxLen; omega) (by omega) (by simp; omega) ?_; intro v' w2 hown' hgrow _)
        go_roundw
        case rel => exact ⟨pre ++ [(m : Int)], m / 2, by go_num, by omega, HE.out, by unfold Ints; simpa using hown', app_below hI hB hgrow, by have := hgrow.size; simp at this; omega⟩
        case measure => simp [intOf]; omega
  · have hd : decide (1 ≤ x ∧ x ≤ 15) = false := decide_eq_false hx
    have hp : path x = [] := by unfold path; rw [if_neg hx]
    rw [hp]
    go_enter Tryz.func95, Tryz.ntmps95
    go_wp2_with fail
    refine (l1In_any _ _ _ _).mono ?_
    rintro e w' ⟨rfl, rfl⟩
    rw [hd]
    go_wp2
    go_ret
    exact ⟨_, rfl, hI0, (Below.refl _ _).alloc (Nat.le_refl _) _⟩
end Go.Proofs.YtapmgbnhobpahaaGreatDoor
/- KeysFor of the model. -/
namespace Go.Proofs.YtapmgbnhobpahaaGreatDoor
open Go.RowKit

theorem step_append_k {P : Program} (w : World) {ops : Array Oper} {o : Oper} {a : Act} {K : Act → World → Prop} {Q : Exit → Act → World → Prop} {E : Prop} (hw : Region.wanted o (yielded ops a.tmps) = true) (s x : Operand) (t : TypeId)
    (ho : o.op = .call { callee := .builtin .append, args := #[s, x], argTypes := #[t, t] })
    (base : Nat) (e : TypeId) (i : TypeInfo) (z : Value) (size bytes : Nat) (ht : P.underlying t = some (.slice e)) (hi : P.info? e = some i) (hz : i.zero = some z)
    (hsize : i.size = size) (hby : i.bytes = bytes) (hzs : z.cells.size = size) (hsz : 0 < size)
    (v : Value) (n : Nat) (xs : List Value) (hs : a.eval s = v) (hown : w.ownsRow base e size v n xs)
    (ad : Addr) (m c : Nat) (news : List Value) (hx : a.eval x = .slice (some ad) m c) (hl : news.length = m * size) (hnews : ∀ j u, news[j]? = some u → w.cell? (ad.add j) = some u) (h1 : ∀ u ∈ news, u.oneCell' = true)
    (hm : 0 < m) (h63 : n + m ≤ maxLen) (hbytes : (n + m) * bytes ≤ 140737488355328) (hbase : base ≤ w.heap.size) (H : Nat) (hH : w.heap.size = H)
    (h : ∀ g cap w', w'.ownsRow base e size (.slice (some ⟨g, 0, none⟩) (n + m) cap) (n + m) (xs ++ news) → w.grownBy w' v.ownBlock → (v.ownBlock = some g ∨ g = H) → g < w'.heap.size → K (a.put o.dst (.slice (some ⟨g, 0, none⟩) (n + m) cap)) w') :
    if Region.wanted o (yielded ops a.tmps) = true then Oper.wp P o a w K Q else E := by
  rw [if_pos hw]
  exact wp_append_lies w s x t ho base e i z size bytes ht hi hz hsize hby hzs hsz v n xs hs hown ad m c news hx hl hnews h1 hm h63 hbytes hbase H hH h
theorem own_ik {B C : Nat} {v u : Value} {xs : List Int} {ys : List (Int × Int)} {W : World} (h : Ints B v xs W) (h' : Keys C u ys W) : ∀ j, u.ownBlock = some j → v.ownBlock ≠ some j := by
  intro j e' e
  rcases h.2 with ⟨rfl, _⟩ | ⟨g, cap, cur, rfl, _, hg, _⟩
  · cases e
  · rcases h'.2 with ⟨rfl, _⟩ | ⟨g', cap', cur', rfl, _, hg', _⟩
    · cases e'
    · simp [Value.ownBlock] at e e'
      subst e e'
      have := hg.symm.trans hg'
      simp at this
/-- What the round's region keeps. -/
def KRest (w : World) (box : Obj) (vp : Value) (ps : List Int) (W : World) : Prop := Ints (w.heap.size + 1 + 1) vp ps W ∧ W.heap[w.heap.size]? = some box ∧ Below w.heap.size w W ∧ w.heap.size + 1 + 1 ≤ W.heap.size
theorem KRest.later {w W W' : World} {box : Obj} {vp : Value} {ps : List Int} (h : KRest w box vp ps W) (hb : Below W.heap.size W W') : KRest w box vp ps W' :=
  ⟨h.1.since hb, (hb.block _ (by have := h.2.2.2; omega)).trans h.2.1, h.2.2.1.trans (hb.mono h.2.2.1.size), by have := hb.size; have := h.2.2.2; omega⟩
theorem KRest.grown {w W W' : World} {box : Obj} {vp : Value} {ps : List Int} {row : Option Nat} (h : KRest w box vp ps W) (hg : W.grownBy W' row) (hr : ∀ k, row = some k → w.heap.size + 1 ≤ k ∧ vp.ownBlock ≠ some k) : KRest w box vp ps W' :=
  ⟨h.1.kept hg (fun k e => (hr k e).2), (hg.block _ (by have := h.2.2.2; omega) (fun e => by have := (hr _ e.symm).1; omega)).trans h.2.1, h.2.2.1.grown hg h.2.2.1.size (fun k e => by have := (hr k e).1; omega), by have := hg.size; have := h.2.2.2; omega⟩
theorem held4_later {w W W' : World} {box : Obj} {vp : Value} {ps : List Int} {p1 p2 p3 p4 : Addr} {v1 v2 v3 v4 : Value} (h : W.cell? p1 = some v1 ∧ W.cell? p2 = some v2 ∧ W.cell? p3 = some v3 ∧ W.cell? p4 = some v4 ∧ KRest w box vp ps W) (hb : Below W.heap.size W W') :
    W'.cell? p1 = some v1 ∧ W'.cell? p2 = some v2 ∧ W'.cell? p3 = some v3 ∧ W'.cell? p4 = some v4 ∧ KRest w box vp ps W' := ⟨cell_since h.1 hb, cell_since h.2.1 hb, cell_since h.2.2.1 hb, cell_since h.2.2.2.1 hb, h.2.2.2.2.later hb⟩
theorem held4_grown {w W W' : World} {box : Obj} {vp : Value} {ps : List Int} {p1 p2 p3 p4 : Addr} {v1 v2 v3 v4 : Value} {row : Option Nat} (h : W.cell? p1 = some v1 ∧ W.cell? p2 = some v2 ∧ W.cell? p3 = some v3 ∧ W.cell? p4 = some v4 ∧ KRest w box vp ps W) (hg : W.grownBy W' row)
    (hr : ∀ k, row = some k → w.heap.size + 1 ≤ k ∧ vp.ownBlock ≠ some k) (b1 : p1.block = w.heap.size) (b2 : p2.block = w.heap.size) (b3 : p3.block = w.heap.size) (b4 : vp.ownBlock = some p4.block) :
    W'.cell? p1 = some v1 ∧ W'.cell? p2 = some v2 ∧ W'.cell? p3 = some v3 ∧ W'.cell? p4 = some v4 ∧ KRest w box vp ps W' :=
  ⟨hg.cell h.1 (fun e => by have := (hr _ e.symm).1; omega), hg.cell h.2.1 (fun e => by have := (hr _ e.symm).1; omega), hg.cell h.2.2.1 (fun e => by have := (hr _ e.symm).1; omega), hg.cell h.2.2.2.1 (fun e => (hr _ e.symm).2 b4), h.2.2.2.2.grown hg hr⟩
theorem keys_own {W : World} {B n : Nat} {v : Value} {xs : List (Int × Int)} (h : Keys B v xs W) (hn : xs.length = n) (o : Obj) : (W.alloc o).ownsRow B 54 2 v n (kcells xs) := by
  subst hn
  exact World.ownsRow.alloc h o
theorem keys_of {W : World} {B g N c : Nat} {ys : List Value} {xs : List (Int × Int)} (h : W.ownsRow B 54 2 (.slice (some ⟨g, 0, none⟩) N c) N ys) (e : ys = kcells xs) (hn : xs.length = N) : Keys B (.slice (some ⟨g, 0, none⟩) N c) xs W := by
  subst e hn
  exact h
theorem drop_rev2 (ws : List (Int × Int)) (j : Nat) (h : j < ws.length) : (ws.drop j).reverse = (ws.drop (j + 1)).reverse ++ [ws[j]] := by
  rw [List.drop_eq_getElem_cons h, List.reverse_cons]
theorem empty_keys (W : World) {S : Nat} (h : W.heap.size = S) : Keys S (.slice (some ⟨S, 0, none⟩) 0 0) [] (W.alloc (.cells #[] 54)) := by
  subst h
  exact World.ownsRow_lit (base := W.heap.size) (size := 2) W #[] 0 (Nat.le_refl _) (by decide) rfl

set_option maxRecDepth 100000 in
set_option maxHeartbeats 4000000 in
theorem l3Keys_any {B : Nat} {x y : Value} {vs : List Int} {w : World} (ep lf : Int) (hx : Ints B x vs w) (hlf : 8 ≤ lf ∧ lf ≤ 15) (hlen : vs.length = 15) :
    Calls Tryz.prog 97 #[svv ep x y, .int .i64 lf] w fun e w' => ∃ a c, e = .returned (.slice a 4 c) ∧ Keys w.heap.size (.slice a 4 c) (keysOn vs lf).reverse w' ∧ Below w.heap.size w w' := by
  obtain ⟨i0, hi, hz0, hz1, hz2⟩ := info_parts infoK
  have HLen := hidOf' hlen
  have HX := hidOf' hx
  have hB1 := two_below w (svb ep x y) (.cells #[] 54)
  have t0 : ((w.alloc (svb ep x y)).alloc (.cells #[] 54)).heap[w.heap.size]? = some (svb ep x y) := by
    rw [Below.heap_alloc _ _ _ (by simp)]
    exact heap_alloc_new _ _
  have E1 := hidOf' (empty_keys (w.alloc (svb ep x y)) (S := w.heap.size + 1) (by simp))
  have hs1 : ((w.alloc (svb ep x y)).alloc (.cells #[] 54)).heap.size = w.heap.size + 1 + 1 := by simp
  obtain ⟨hp4, hpr⟩ := path_four hlf.1 hlf.2
  have HPR := hidOf' hpr
  have HK4 := hidOf' (keysOn_len (vs := vs) hlf)
  clear hpr hlen hx
  go_enter Tryz.func97, Tryz.ntmps97
  go_wp2_with fail
  generalize (w.alloc (svb ep x y)).alloc (.cells #[] 54) = w1 at *
  refine (specPathOf_any lf _).mono ?_
  rintro e w2 ⟨vp, rfl, p2, b2⟩
  obtain ⟨ap, cp, hvp, _, hprow⟩ := p2.row
  rw [hp4] at hvp
  obtain ⟨g, ha⟩ : ∃ g, ap = some ⟨g, 0, none⟩ := by
    rcases hprow with e | ⟨g, e, _⟩
    · rw [e] at hp4; simp at hp4
    · exact ⟨g, e⟩
  subst ha
  subst hvp
  have E2 := hidOf' (keys_since E1.out b2)
  have hR2 : KRest w (svb ep x y) (.slice (some ⟨g, 0, none⟩) 4 cp) (path lf) w2 := ⟨by rw [← hs1]; exact p2, (b2.block _ (by omega)).trans t0, more hB1 b2, by have := b2.size; omega⟩
  have HR2 := hidOf' hR2
  clear hR2 p2 b2 t0 hB1 E1 hprow
  go_wp2
  go_loopw [5, 7] (fun ov i wr => ∃ (k r : Nat) (a : Option Addr) (c : Nat), ov = .slice a r c ∧ i = .int .i64 ((k : Int) - 1) ∧ r + k = 4 ∧ Hid (Keys (w.heap.size + 1) (.slice a r c) ((keysOn vs lf).drop k).reverse wr) ∧ Hid (KRest w (svb ep x y) (.slice (some ⟨g, 0, none⟩) 4 cp) (path lf) wr)) (fun _ i _ => ((intOf i) + 1).toNat)
  case atStart => exact ⟨4, 0, _, _, rfl, rfl, by omega, (by show Keys _ _ _ _; rw [List.drop_of_length_le (by rw [HK4.out]; exact Nat.le_refl _)]; exact E2.out), HR2.out⟩
  case round =>
    obtain ⟨k, r, a, c, rfl, rfl, hk, HKs, HR⟩ := hrel
    clear E2 HR2
    cases k with
    | zero =>
      obtain rfl : r = 4 := by omega
      have HKf := hidOf' (show Keys w.heap.size (.slice a 4 c) (keysOn vs lf).reverse wr from by have := HKs.out; simpa using this.mono (show w.heap.size ≤ w.heap.size + 1 by omega))
      have HBf := hidOf' HR.out.2.2.1
      clear HKs HR
      go_wp2
      go_ret
      exact ⟨a, c, rfl, HKf.out, HBf.out⟩
    | succ j =>
      have hcast : ((j + 1 : Nat) : Int) - 1 = (j : Int) := by omega
      rw [hcast]
      have hj4 : (j : Int) < 4 := by omega
      have hjp : j < (path lf).length := by omega
      have hjk : j < (keysOn vs lf).length := by rw [HK4.out]; omega
      have hbn := HPR.out j hjp
      have HT := hidOf' (drop_rev2 (keysOn vs lf) j hjk)
      have hkj : (keysOn vs lf)[j] = ((path lf)[j], vAt vs ((path lf)[j].toNat - 1)) := by simp [keysOn]
      rw [hkj] at HT
      clear hkj
      have e1 : wr.cell? ⟨g, j, none⟩ = some (.int .i64 (path lf)[j]) := by
        rcases HR.out.1.form with ⟨e, _⟩ | ⟨g', cap', e, _, _, _, _, h3⟩
        · cases e
        · injection e with e; injection e with e; injection e with e; subst e
          exact (h3 j hjp).1
      obtain ⟨nd, hnd⟩ : ∃ nd : Nat, (path lf)[j] = (nd : Int) + 1 := ⟨((path lf)[j] - 1).toNat, by omega⟩
      rw [hnd] at e1 HT hbn
      have hn15 : nd < 15 := by omega
      have hnt : ((nd : Int) + 1).toNat - 1 = nd := by omega
      rw [hnt] at HT
      clear hnd hnt
      obtain ⟨⟨q0, q1, q2⟩, _, _, _⟩ := box3 HR.out.2.1
      have hX : Ints B x vs wr.drew := HX.out.below (HR.out.2.2.1.drew) (fun k e => (HX.out.lt k e).2)
      have HX5 := hidOf' hX
      have hrl : ((keysOn vs lf).drop (j + 1)).reverse.length = r := by rw [List.length_reverse, List.length_drop, HK4.out]; omega
      have hne : ∀ jj, (Value.slice a (r) c).ownBlock = some jj → w.heap.size + 1 ≤ jj ∧ (Value.slice (some ⟨g, 0, none⟩) 4 cp).ownBlock ≠ some jj := fun jj e => ⟨(HKs.out.lt jj e).1, own_ik HR.out.1 HKs.out jj e⟩
      have hP0 : wr.drew.cell? ⟨w.heap.size, 0, none⟩ = some (.int .i64 ep) ∧ wr.drew.cell? ⟨w.heap.size, 1, none⟩ = some x ∧ wr.drew.cell? ⟨w.heap.size, 2, none⟩ = some y ∧ wr.drew.cell? ⟨g, j, none⟩ = some (.int .i64 ((nd : Int) + 1)) ∧ KRest w (svb ep x y) (.slice (some ⟨g, 0, none⟩) 4 cp) (path lf) wr.drew := ⟨q0, q1, q2, e1, HR.out.later (Below.refl _ _).drew⟩
      have HP0 := hidOf' hP0
      have hszr := HR.out.2.2.2
      clear hX hP0
      generalize hvj : vAt vs nd = vj at *
      go_wp2
      go_region_held3 (fun W => W.cell? ⟨w.heap.size, 0, none⟩ = some (.int .i64 ep) ∧ W.cell? ⟨w.heap.size, 1, none⟩ = some x ∧ W.cell? ⟨w.heap.size, 2, none⟩ = some y ∧ W.cell? ⟨g, j, none⟩ = some (.int .i64 ((nd : Int) + 1)) ∧ KRest w (svb ep x y) (.slice (some ⟨g, 0, none⟩) 4 cp) (path lf) W)
        (first | exact HP0.out | exact held4_later ‹_› b5 | exact held4_later ‹_› (one_below _ _) | exact held4_grown ‹_› hgB hne rfl rfl rfl rfl | assumption)
        (first
          | (go_at_call 96; refine (l3Key_any ep nd hn15 HLen.out HX5.out).mono ?_; rintro e w5 ⟨rfl, b5⟩; rw [hvj]; have hs5 := b5.size; have hs5' : wr.heap.size ≤ w5.heap.size := hs5)
          | (refine step_append_k _ (by rfl) _ _ _ (by rfl) (w.heap.size + 1) 54 i0 (.agg #[.int .i64 0, .int .i64 0]) 2 16 Tryz.underlying85 hi hz0 hz1 hz2 rfl (by omega) (.slice a (r) c) (r) _ (by rfl) (by exact keys_own (keys_since (show Keys _ _ _ wr.drew from HKs.out) b5) hrl _) ⟨w5.heap.size, 0, none⟩ 1 _ [.int .i64 ((nd : Int) + 1), .int .i64 vj] (by rfl) (by rfl) (by exact cell_key _ _ _) (by simp [Value.oneCell']) (by omega) (by unfold maxLen; omega) (by omega) (by simp <;> omega) _ rfl ?_; intro gB cB wB hownB hgB hatB hltB))
      all_goals
        rename_i hHeld
        have HRf := hidOf' hHeld.2.2.2.2
        have HKn := hidOf' (keys_of (xs := ((keysOn vs lf).drop (j + 1)).reverse ++ [((nd : Int) + 1, vj)]) hownB (by rw [kcells_append]; rfl) (by rw [List.length_append, hrl]; rfl))
        clear hHeld hownB hgB b5 HP0 HX5 HKs HR
        go_wp2
        go_roundw
        case rel => exact ⟨j, r + 1, some ⟨gB, 0, none⟩, cB, rfl, by go_num, by omega, (by show Keys _ _ _ _; rw [HT.out]; exact HKn.out), HRf.out⟩
        case measure => simp [intOf] <;> omega

def KB (w : World) (_ep : Int) (x y : Value) (vs : List Int) (ss : List (Int × Int)) (B C : Nat) (W : World) : Prop := Ints B x vs W ∧ Seats C y ss W ∧ Below w.heap.size w W
theorem KB.later {w W W' : World} {ep : Int} {x y : Value} {vs : List Int} {ss : List (Int × Int)} {B C : Nat} (h : KB w ep x y vs ss B C W) (hb : Below W.heap.size W W') : KB w ep x y vs ss B C W' := ⟨h.1.since hb, h.2.1.since hb, h.2.2.trans (hb.mono h.2.2.size)⟩
theorem held3_later {w W W' : World} {ep : Int} {x y : Value} {vs : List Int} {ss : List (Int × Int)} {B C : Nat} {p1 p2 p3 : Addr} {v1 v2 v3 : Value} (h : W.cell? p1 = some v1 ∧ W.cell? p2 = some v2 ∧ W.cell? p3 = some v3 ∧ KB w ep x y vs ss B C W) (hb : Below W.heap.size W W') :
    W'.cell? p1 = some v1 ∧ W'.cell? p2 = some v2 ∧ W'.cell? p3 = some v3 ∧ KB w ep x y vs ss B C W' := ⟨cell_since h.1 hb, cell_since h.2.1 hb, cell_since h.2.2.1 hb, h.2.2.2.later hb⟩

end Go.Proofs.YtapmgbnhobpahaaGreatDoor
/- The bundle's cells and rows by their places. -/
namespace Go.Proofs.YtapmgbnhobpahaaGreatDoor
open Go.RowKit

theorem Kit.c0 {w0 W : World} {cs : List (Addr × Value)} {rs : List RowF} {a : Addr} {v : Value} (K : Kit w0 ((a, v) :: cs) rs W) : W.cell? a = some v := K.cell (a, v) (.head _)
theorem Kit.c1 {w0 W : World} {cs : List (Addr × Value)} {rs : List RowF} {x0 : Addr × Value} {a : Addr} {v : Value} (K : Kit w0 (x0 :: (a, v) :: cs) rs W) : W.cell? a = some v := K.cell (a, v) (.tail _ (.head _))
theorem Kit.c2 {w0 W : World} {cs : List (Addr × Value)} {rs : List RowF} {x0 x1 : Addr × Value} {a : Addr} {v : Value} (K : Kit w0 (x0 :: x1 :: (a, v) :: cs) rs W) : W.cell? a = some v := K.cell (a, v) (.tail _ (.tail _ (.head _)))
theorem Kit.c3 {w0 W : World} {cs : List (Addr × Value)} {rs : List RowF} {x0 x1 x2 : Addr × Value} {a : Addr} {v : Value} (K : Kit w0 (x0 :: x1 :: x2 :: (a, v) :: cs) rs W) : W.cell? a = some v := K.cell (a, v) (.tail _ (.tail _ (.tail _ (.head _))))
theorem Kit.c4 {w0 W : World} {cs : List (Addr × Value)} {rs : List RowF} {x0 x1 x2 x3 : Addr × Value} {a : Addr} {v : Value} (K : Kit w0 (x0 :: x1 :: x2 :: x3 :: (a, v) :: cs) rs W) : W.cell? a = some v := K.cell (a, v) (.tail _ (.tail _ (.tail _ (.tail _ (.head _)))))
theorem Kit.c5 {w0 W : World} {cs : List (Addr × Value)} {rs : List RowF} {x0 x1 x2 x3 x4 : Addr × Value} {a : Addr} {v : Value} (K : Kit w0 (x0 :: x1 :: x2 :: x3 :: x4 :: (a, v) :: cs) rs W) : W.cell? a = some v := K.cell (a, v) (.tail _ (.tail _ (.tail _ (.tail _ (.tail _ (.head _))))))
theorem Kit.c6 {w0 W : World} {cs : List (Addr × Value)} {rs : List RowF} {x0 x1 x2 x3 x4 x5 : Addr × Value} {a : Addr} {v : Value} (K : Kit w0 (x0 :: x1 :: x2 :: x3 :: x4 :: x5 :: (a, v) :: cs) rs W) : W.cell? a = some v := K.cell (a, v) (.tail _ (.tail _ (.tail _ (.tail _ (.tail _ (.tail _ (.head _)))))))
theorem Kit.c7 {w0 W : World} {cs : List (Addr × Value)} {rs : List RowF} {x0 x1 x2 x3 x4 x5 x6 : Addr × Value} {a : Addr} {v : Value} (K : Kit w0 (x0 :: x1 :: x2 :: x3 :: x4 :: x5 :: x6 :: (a, v) :: cs) rs W) : W.cell? a = some v := K.cell (a, v) (.tail _ (.tail _ (.tail _ (.tail _ (.tail _ (.tail _ (.tail _ (.head _))))))))
theorem Kit.c8 {w0 W : World} {cs : List (Addr × Value)} {rs : List RowF} {x0 x1 x2 x3 x4 x5 x6 x7 : Addr × Value} {a : Addr} {v : Value} (K : Kit w0 (x0 :: x1 :: x2 :: x3 :: x4 :: x5 :: x6 :: x7 :: (a, v) :: cs) rs W) : W.cell? a = some v := K.cell (a, v) (.tail _ (.tail _ (.tail _ (.tail _ (.tail _ (.tail _ (.tail _ (.tail _ (.head _)))))))))
theorem Kit.c9 {w0 W : World} {cs : List (Addr × Value)} {rs : List RowF} {x0 x1 x2 x3 x4 x5 x6 x7 x8 : Addr × Value} {a : Addr} {v : Value} (K : Kit w0 (x0 :: x1 :: x2 :: x3 :: x4 :: x5 :: x6 :: x7 :: x8 :: (a, v) :: cs) rs W) : W.cell? a = some v := K.cell (a, v) (.tail _ (.tail _ (.tail _ (.tail _ (.tail _ (.tail _ (.tail _ (.tail _ (.tail _ (.head _))))))))))
theorem Kit.c10 {w0 W : World} {cs : List (Addr × Value)} {rs : List RowF} {x0 x1 x2 x3 x4 x5 x6 x7 x8 x9 : Addr × Value} {a : Addr} {v : Value} (K : Kit w0 (x0 :: x1 :: x2 :: x3 :: x4 :: x5 :: x6 :: x7 :: x8 :: x9 :: (a, v) :: cs) rs W) : W.cell? a = some v := K.cell (a, v) (.tail _ (.tail _ (.tail _ (.tail _ (.tail _ (.tail _ (.tail _ (.tail _ (.tail _ (.tail _ (.head _)))))))))))
theorem Kit.c11 {w0 W : World} {cs : List (Addr × Value)} {rs : List RowF} {x0 x1 x2 x3 x4 x5 x6 x7 x8 x9 x10 : Addr × Value} {a : Addr} {v : Value} (K : Kit w0 (x0 :: x1 :: x2 :: x3 :: x4 :: x5 :: x6 :: x7 :: x8 :: x9 :: x10 :: (a, v) :: cs) rs W) : W.cell? a = some v := K.cell (a, v) (.tail _ (.tail _ (.tail _ (.tail _ (.tail _ (.tail _ (.tail _ (.tail _ (.tail _ (.tail _ (.tail _ (.head _))))))))))))
theorem Kit.c12 {w0 W : World} {cs : List (Addr × Value)} {rs : List RowF} {x0 x1 x2 x3 x4 x5 x6 x7 x8 x9 x10 x11 : Addr × Value} {a : Addr} {v : Value} (K : Kit w0 (x0 :: x1 :: x2 :: x3 :: x4 :: x5 :: x6 :: x7 :: x8 :: x9 :: x10 :: x11 :: (a, v) :: cs) rs W) : W.cell? a = some v := K.cell (a, v) (.tail _ (.tail _ (.tail _ (.tail _ (.tail _ (.tail _ (.tail _ (.tail _ (.tail _ (.tail _ (.tail _ (.tail _ (.head _)))))))))))))
theorem Kit.c13 {w0 W : World} {cs : List (Addr × Value)} {rs : List RowF} {x0 x1 x2 x3 x4 x5 x6 x7 x8 x9 x10 x11 x12 : Addr × Value} {a : Addr} {v : Value} (K : Kit w0 (x0 :: x1 :: x2 :: x3 :: x4 :: x5 :: x6 :: x7 :: x8 :: x9 :: x10 :: x11 :: x12 :: (a, v) :: cs) rs W) : W.cell? a = some v := K.cell (a, v) (.tail _ (.tail _ (.tail _ (.tail _ (.tail _ (.tail _ (.tail _ (.tail _ (.tail _ (.tail _ (.tail _ (.tail _ (.tail _ (.head _))))))))))))))
theorem Kit.c14 {w0 W : World} {cs : List (Addr × Value)} {rs : List RowF} {x0 x1 x2 x3 x4 x5 x6 x7 x8 x9 x10 x11 x12 x13 : Addr × Value} {a : Addr} {v : Value} (K : Kit w0 (x0 :: x1 :: x2 :: x3 :: x4 :: x5 :: x6 :: x7 :: x8 :: x9 :: x10 :: x11 :: x12 :: x13 :: (a, v) :: cs) rs W) : W.cell? a = some v := K.cell (a, v) (.tail _ (.tail _ (.tail _ (.tail _ (.tail _ (.tail _ (.tail _ (.tail _ (.tail _ (.tail _ (.tail _ (.tail _ (.tail _ (.tail _ (.head _)))))))))))))))
theorem Kit.c15 {w0 W : World} {cs : List (Addr × Value)} {rs : List RowF} {x0 x1 x2 x3 x4 x5 x6 x7 x8 x9 x10 x11 x12 x13 x14 : Addr × Value} {a : Addr} {v : Value} (K : Kit w0 (x0 :: x1 :: x2 :: x3 :: x4 :: x5 :: x6 :: x7 :: x8 :: x9 :: x10 :: x11 :: x12 :: x13 :: x14 :: (a, v) :: cs) rs W) : W.cell? a = some v := K.cell (a, v) (.tail _ (.tail _ (.tail _ (.tail _ (.tail _ (.tail _ (.tail _ (.tail _ (.tail _ (.tail _ (.tail _ (.tail _ (.tail _ (.tail _ (.tail _ (.head _))))))))))))))))
theorem Kit.c16 {w0 W : World} {cs : List (Addr × Value)} {rs : List RowF} {x0 x1 x2 x3 x4 x5 x6 x7 x8 x9 x10 x11 x12 x13 x14 x15 : Addr × Value} {a : Addr} {v : Value} (K : Kit w0 (x0 :: x1 :: x2 :: x3 :: x4 :: x5 :: x6 :: x7 :: x8 :: x9 :: x10 :: x11 :: x12 :: x13 :: x14 :: x15 :: (a, v) :: cs) rs W) : W.cell? a = some v := K.cell (a, v) (.tail _ (.tail _ (.tail _ (.tail _ (.tail _ (.tail _ (.tail _ (.tail _ (.tail _ (.tail _ (.tail _ (.tail _ (.tail _ (.tail _ (.tail _ (.tail _ (.head _)))))))))))))))))
theorem Kit.c17 {w0 W : World} {cs : List (Addr × Value)} {rs : List RowF} {x0 x1 x2 x3 x4 x5 x6 x7 x8 x9 x10 x11 x12 x13 x14 x15 x16 : Addr × Value} {a : Addr} {v : Value} (K : Kit w0 (x0 :: x1 :: x2 :: x3 :: x4 :: x5 :: x6 :: x7 :: x8 :: x9 :: x10 :: x11 :: x12 :: x13 :: x14 :: x15 :: x16 :: (a, v) :: cs) rs W) : W.cell? a = some v := K.cell (a, v) (.tail _ (.tail _ (.tail _ (.tail _ (.tail _ (.tail _ (.tail _ (.tail _ (.tail _ (.tail _ (.tail _ (.tail _ (.tail _ (.tail _ (.tail _ (.tail _ (.tail _ (.head _))))))))))))))))))
theorem Kit.r0 {w0 W : World} {cs : List (Addr × Value)} {rs : List RowF} {r : RowF} (K : Kit w0 cs (r :: rs) W) : r.on W := K.row r (.head _)
theorem Kit.mark0 {w0 W W' : World} {cs : List (Addr × Value)} {rs : List RowF} {r r' : RowF} (K : Kit w0 cs (r :: rs) W) (hg : W.grownBy W' r.v.ownBlock) (h : r'.on W') (hv : r'.v = r.v) (hB : r'.B = r.B) : Kit w0 cs (r' :: rs) W' := Kit.mark (pre := []) K hg h hv hB
theorem Kit.lose0 {w0 W W' : World} {cs : List (Addr × Value)} {rs : List RowF} {r : RowF} (K : Kit w0 cs (r :: rs) W) (hg : W.grownBy W' r.v.ownBlock) : Kit w0 cs (rs) W' := (Kit.front (pre := []) K).lose hg
theorem Kit.drop0 {w0 W : World} {cs : List (Addr × Value)} {rs : List RowF} {r : RowF} (K : Kit w0 cs (r :: rs) W) : Kit w0 cs (rs) W := K.sub (fun _ h => h) (.cons _ (List.Sublist.refl _))
theorem Kit.r1 {w0 W : World} {cs : List (Addr × Value)} {rs : List RowF} {x0 : RowF} {r : RowF} (K : Kit w0 cs (x0 :: r :: rs) W) : r.on W := K.row r (.tail _ (.head _))
theorem Kit.mark1 {w0 W W' : World} {cs : List (Addr × Value)} {rs : List RowF} {x0 : RowF} {r r' : RowF} (K : Kit w0 cs (x0 :: r :: rs) W) (hg : W.grownBy W' r.v.ownBlock) (h : r'.on W') (hv : r'.v = r.v) (hB : r'.B = r.B) : Kit w0 cs (x0 :: r' :: rs) W' := Kit.mark (pre := [x0]) K hg h hv hB
theorem Kit.lose1 {w0 W W' : World} {cs : List (Addr × Value)} {rs : List RowF} {x0 : RowF} {r : RowF} (K : Kit w0 cs (x0 :: r :: rs) W) (hg : W.grownBy W' r.v.ownBlock) : Kit w0 cs (x0 :: rs) W' := (Kit.front (pre := [x0]) K).lose hg
theorem Kit.drop1 {w0 W : World} {cs : List (Addr × Value)} {rs : List RowF} {x0 : RowF} {r : RowF} (K : Kit w0 cs (x0 :: r :: rs) W) : Kit w0 cs (x0 :: rs) W := K.sub (fun _ h => h) (.cons_cons _ (.cons _ (List.Sublist.refl _)))
theorem Kit.r2 {w0 W : World} {cs : List (Addr × Value)} {rs : List RowF} {x0 x1 : RowF} {r : RowF} (K : Kit w0 cs (x0 :: x1 :: r :: rs) W) : r.on W := K.row r (.tail _ (.tail _ (.head _)))
theorem Kit.mark2 {w0 W W' : World} {cs : List (Addr × Value)} {rs : List RowF} {x0 x1 : RowF} {r r' : RowF} (K : Kit w0 cs (x0 :: x1 :: r :: rs) W) (hg : W.grownBy W' r.v.ownBlock) (h : r'.on W') (hv : r'.v = r.v) (hB : r'.B = r.B) : Kit w0 cs (x0 :: x1 :: r' :: rs) W' := Kit.mark (pre := [x0, x1]) K hg h hv hB
theorem Kit.lose2 {w0 W W' : World} {cs : List (Addr × Value)} {rs : List RowF} {x0 x1 : RowF} {r : RowF} (K : Kit w0 cs (x0 :: x1 :: r :: rs) W) (hg : W.grownBy W' r.v.ownBlock) : Kit w0 cs (x0 :: x1 :: rs) W' := (Kit.front (pre := [x0, x1]) K).lose hg
theorem Kit.drop2 {w0 W : World} {cs : List (Addr × Value)} {rs : List RowF} {x0 x1 : RowF} {r : RowF} (K : Kit w0 cs (x0 :: x1 :: r :: rs) W) : Kit w0 cs (x0 :: x1 :: rs) W := K.sub (fun _ h => h) (.cons_cons _ (.cons_cons _ (.cons _ (List.Sublist.refl _))))
theorem Kit.r3 {w0 W : World} {cs : List (Addr × Value)} {rs : List RowF} {x0 x1 x2 : RowF} {r : RowF} (K : Kit w0 cs (x0 :: x1 :: x2 :: r :: rs) W) : r.on W := K.row r (.tail _ (.tail _ (.tail _ (.head _))))
theorem Kit.mark3 {w0 W W' : World} {cs : List (Addr × Value)} {rs : List RowF} {x0 x1 x2 : RowF} {r r' : RowF} (K : Kit w0 cs (x0 :: x1 :: x2 :: r :: rs) W) (hg : W.grownBy W' r.v.ownBlock) (h : r'.on W') (hv : r'.v = r.v) (hB : r'.B = r.B) : Kit w0 cs (x0 :: x1 :: x2 :: r' :: rs) W' := Kit.mark (pre := [x0, x1, x2]) K hg h hv hB
theorem Kit.lose3 {w0 W W' : World} {cs : List (Addr × Value)} {rs : List RowF} {x0 x1 x2 : RowF} {r : RowF} (K : Kit w0 cs (x0 :: x1 :: x2 :: r :: rs) W) (hg : W.grownBy W' r.v.ownBlock) : Kit w0 cs (x0 :: x1 :: x2 :: rs) W' := (Kit.front (pre := [x0, x1, x2]) K).lose hg
theorem Kit.drop3 {w0 W : World} {cs : List (Addr × Value)} {rs : List RowF} {x0 x1 x2 : RowF} {r : RowF} (K : Kit w0 cs (x0 :: x1 :: x2 :: r :: rs) W) : Kit w0 cs (x0 :: x1 :: x2 :: rs) W := K.sub (fun _ h => h) (.cons_cons _ (.cons_cons _ (.cons_cons _ (.cons _ (List.Sublist.refl _)))))
theorem Kit.r4 {w0 W : World} {cs : List (Addr × Value)} {rs : List RowF} {x0 x1 x2 x3 : RowF} {r : RowF} (K : Kit w0 cs (x0 :: x1 :: x2 :: x3 :: r :: rs) W) : r.on W := K.row r (.tail _ (.tail _ (.tail _ (.tail _ (.head _)))))
theorem Kit.mark4 {w0 W W' : World} {cs : List (Addr × Value)} {rs : List RowF} {x0 x1 x2 x3 : RowF} {r r' : RowF} (K : Kit w0 cs (x0 :: x1 :: x2 :: x3 :: r :: rs) W) (hg : W.grownBy W' r.v.ownBlock) (h : r'.on W') (hv : r'.v = r.v) (hB : r'.B = r.B) : Kit w0 cs (x0 :: x1 :: x2 :: x3 :: r' :: rs) W' := Kit.mark (pre := [x0, x1, x2, x3]) K hg h hv hB
theorem Kit.lose4 {w0 W W' : World} {cs : List (Addr × Value)} {rs : List RowF} {x0 x1 x2 x3 : RowF} {r : RowF} (K : Kit w0 cs (x0 :: x1 :: x2 :: x3 :: r :: rs) W) (hg : W.grownBy W' r.v.ownBlock) : Kit w0 cs (x0 :: x1 :: x2 :: x3 :: rs) W' := (Kit.front (pre := [x0, x1, x2, x3]) K).lose hg
theorem Kit.drop4 {w0 W : World} {cs : List (Addr × Value)} {rs : List RowF} {x0 x1 x2 x3 : RowF} {r : RowF} (K : Kit w0 cs (x0 :: x1 :: x2 :: x3 :: r :: rs) W) : Kit w0 cs (x0 :: x1 :: x2 :: x3 :: rs) W := K.sub (fun _ h => h) (.cons_cons _ (.cons_cons _ (.cons_cons _ (.cons_cons _ (.cons _ (List.Sublist.refl _))))))
theorem Kit.r5 {w0 W : World} {cs : List (Addr × Value)} {rs : List RowF} {x0 x1 x2 x3 x4 : RowF} {r : RowF} (K : Kit w0 cs (x0 :: x1 :: x2 :: x3 :: x4 :: r :: rs) W) : r.on W := K.row r (.tail _ (.tail _ (.tail _ (.tail _ (.tail _ (.head _))))))
theorem Kit.mark5 {w0 W W' : World} {cs : List (Addr × Value)} {rs : List RowF} {x0 x1 x2 x3 x4 : RowF} {r r' : RowF} (K : Kit w0 cs (x0 :: x1 :: x2 :: x3 :: x4 :: r :: rs) W) (hg : W.grownBy W' r.v.ownBlock) (h : r'.on W') (hv : r'.v = r.v) (hB : r'.B = r.B) : Kit w0 cs (x0 :: x1 :: x2 :: x3 :: x4 :: r' :: rs) W' := Kit.mark (pre := [x0, x1, x2, x3, x4]) K hg h hv hB
theorem Kit.lose5 {w0 W W' : World} {cs : List (Addr × Value)} {rs : List RowF} {x0 x1 x2 x3 x4 : RowF} {r : RowF} (K : Kit w0 cs (x0 :: x1 :: x2 :: x3 :: x4 :: r :: rs) W) (hg : W.grownBy W' r.v.ownBlock) : Kit w0 cs (x0 :: x1 :: x2 :: x3 :: x4 :: rs) W' := (Kit.front (pre := [x0, x1, x2, x3, x4]) K).lose hg
theorem Kit.drop5 {w0 W : World} {cs : List (Addr × Value)} {rs : List RowF} {x0 x1 x2 x3 x4 : RowF} {r : RowF} (K : Kit w0 cs (x0 :: x1 :: x2 :: x3 :: x4 :: r :: rs) W) : Kit w0 cs (x0 :: x1 :: x2 :: x3 :: x4 :: rs) W := K.sub (fun _ h => h) (.cons_cons _ (.cons_cons _ (.cons_cons _ (.cons_cons _ (.cons_cons _ (.cons _ (List.Sublist.refl _)))))))
theorem Kit.r6 {w0 W : World} {cs : List (Addr × Value)} {rs : List RowF} {x0 x1 x2 x3 x4 x5 : RowF} {r : RowF} (K : Kit w0 cs (x0 :: x1 :: x2 :: x3 :: x4 :: x5 :: r :: rs) W) : r.on W := K.row r (.tail _ (.tail _ (.tail _ (.tail _ (.tail _ (.tail _ (.head _)))))))
theorem Kit.mark6 {w0 W W' : World} {cs : List (Addr × Value)} {rs : List RowF} {x0 x1 x2 x3 x4 x5 : RowF} {r r' : RowF} (K : Kit w0 cs (x0 :: x1 :: x2 :: x3 :: x4 :: x5 :: r :: rs) W) (hg : W.grownBy W' r.v.ownBlock) (h : r'.on W') (hv : r'.v = r.v) (hB : r'.B = r.B) : Kit w0 cs (x0 :: x1 :: x2 :: x3 :: x4 :: x5 :: r' :: rs) W' := Kit.mark (pre := [x0, x1, x2, x3, x4, x5]) K hg h hv hB
theorem Kit.lose6 {w0 W W' : World} {cs : List (Addr × Value)} {rs : List RowF} {x0 x1 x2 x3 x4 x5 : RowF} {r : RowF} (K : Kit w0 cs (x0 :: x1 :: x2 :: x3 :: x4 :: x5 :: r :: rs) W) (hg : W.grownBy W' r.v.ownBlock) : Kit w0 cs (x0 :: x1 :: x2 :: x3 :: x4 :: x5 :: rs) W' := (Kit.front (pre := [x0, x1, x2, x3, x4, x5]) K).lose hg
theorem Kit.drop6 {w0 W : World} {cs : List (Addr × Value)} {rs : List RowF} {x0 x1 x2 x3 x4 x5 : RowF} {r : RowF} (K : Kit w0 cs (x0 :: x1 :: x2 :: x3 :: x4 :: x5 :: r :: rs) W) : Kit w0 cs (x0 :: x1 :: x2 :: x3 :: x4 :: x5 :: rs) W := K.sub (fun _ h => h) (.cons_cons _ (.cons_cons _ (.cons_cons _ (.cons_cons _ (.cons_cons _ (.cons_cons _ (.cons _ (List.Sublist.refl _))))))))
theorem Kit.r7 {w0 W : World} {cs : List (Addr × Value)} {rs : List RowF} {x0 x1 x2 x3 x4 x5 x6 : RowF} {r : RowF} (K : Kit w0 cs (x0 :: x1 :: x2 :: x3 :: x4 :: x5 :: x6 :: r :: rs) W) : r.on W := K.row r (.tail _ (.tail _ (.tail _ (.tail _ (.tail _ (.tail _ (.tail _ (.head _))))))))
theorem Kit.mark7 {w0 W W' : World} {cs : List (Addr × Value)} {rs : List RowF} {x0 x1 x2 x3 x4 x5 x6 : RowF} {r r' : RowF} (K : Kit w0 cs (x0 :: x1 :: x2 :: x3 :: x4 :: x5 :: x6 :: r :: rs) W) (hg : W.grownBy W' r.v.ownBlock) (h : r'.on W') (hv : r'.v = r.v) (hB : r'.B = r.B) : Kit w0 cs (x0 :: x1 :: x2 :: x3 :: x4 :: x5 :: x6 :: r' :: rs) W' := Kit.mark (pre := [x0, x1, x2, x3, x4, x5, x6]) K hg h hv hB
theorem Kit.lose7 {w0 W W' : World} {cs : List (Addr × Value)} {rs : List RowF} {x0 x1 x2 x3 x4 x5 x6 : RowF} {r : RowF} (K : Kit w0 cs (x0 :: x1 :: x2 :: x3 :: x4 :: x5 :: x6 :: r :: rs) W) (hg : W.grownBy W' r.v.ownBlock) : Kit w0 cs (x0 :: x1 :: x2 :: x3 :: x4 :: x5 :: x6 :: rs) W' := (Kit.front (pre := [x0, x1, x2, x3, x4, x5, x6]) K).lose hg
theorem Kit.drop7 {w0 W : World} {cs : List (Addr × Value)} {rs : List RowF} {x0 x1 x2 x3 x4 x5 x6 : RowF} {r : RowF} (K : Kit w0 cs (x0 :: x1 :: x2 :: x3 :: x4 :: x5 :: x6 :: r :: rs) W) : Kit w0 cs (x0 :: x1 :: x2 :: x3 :: x4 :: x5 :: x6 :: rs) W := K.sub (fun _ h => h) (.cons_cons _ (.cons_cons _ (.cons_cons _ (.cons_cons _ (.cons_cons _ (.cons_cons _ (.cons_cons _ (.cons _ (List.Sublist.refl _)))))))))
theorem Kit.r8 {w0 W : World} {cs : List (Addr × Value)} {rs : List RowF} {x0 x1 x2 x3 x4 x5 x6 x7 : RowF} {r : RowF} (K : Kit w0 cs (x0 :: x1 :: x2 :: x3 :: x4 :: x5 :: x6 :: x7 :: r :: rs) W) : r.on W := K.row r (.tail _ (.tail _ (.tail _ (.tail _ (.tail _ (.tail _ (.tail _ (.tail _ (.head _)))))))))
theorem Kit.mark8 {w0 W W' : World} {cs : List (Addr × Value)} {rs : List RowF} {x0 x1 x2 x3 x4 x5 x6 x7 : RowF} {r r' : RowF} (K : Kit w0 cs (x0 :: x1 :: x2 :: x3 :: x4 :: x5 :: x6 :: x7 :: r :: rs) W) (hg : W.grownBy W' r.v.ownBlock) (h : r'.on W') (hv : r'.v = r.v) (hB : r'.B = r.B) : Kit w0 cs (x0 :: x1 :: x2 :: x3 :: x4 :: x5 :: x6 :: x7 :: r' :: rs) W' := Kit.mark (pre := [x0, x1, x2, x3, x4, x5, x6, x7]) K hg h hv hB
theorem Kit.lose8 {w0 W W' : World} {cs : List (Addr × Value)} {rs : List RowF} {x0 x1 x2 x3 x4 x5 x6 x7 : RowF} {r : RowF} (K : Kit w0 cs (x0 :: x1 :: x2 :: x3 :: x4 :: x5 :: x6 :: x7 :: r :: rs) W) (hg : W.grownBy W' r.v.ownBlock) : Kit w0 cs (x0 :: x1 :: x2 :: x3 :: x4 :: x5 :: x6 :: x7 :: rs) W' := (Kit.front (pre := [x0, x1, x2, x3, x4, x5, x6, x7]) K).lose hg
theorem Kit.drop8 {w0 W : World} {cs : List (Addr × Value)} {rs : List RowF} {x0 x1 x2 x3 x4 x5 x6 x7 : RowF} {r : RowF} (K : Kit w0 cs (x0 :: x1 :: x2 :: x3 :: x4 :: x5 :: x6 :: x7 :: r :: rs) W) : Kit w0 cs (x0 :: x1 :: x2 :: x3 :: x4 :: x5 :: x6 :: x7 :: rs) W := K.sub (fun _ h => h) (.cons_cons _ (.cons_cons _ (.cons_cons _ (.cons_cons _ (.cons_cons _ (.cons_cons _ (.cons_cons _ (.cons_cons _ (.cons _ (List.Sublist.refl _))))))))))
theorem Kit.r9 {w0 W : World} {cs : List (Addr × Value)} {rs : List RowF} {x0 x1 x2 x3 x4 x5 x6 x7 x8 : RowF} {r : RowF} (K : Kit w0 cs (x0 :: x1 :: x2 :: x3 :: x4 :: x5 :: x6 :: x7 :: x8 :: r :: rs) W) : r.on W := K.row r (.tail _ (.tail _ (.tail _ (.tail _ (.tail _ (.tail _ (.tail _ (.tail _ (.tail _ (.head _))))))))))
theorem Kit.mark9 {w0 W W' : World} {cs : List (Addr × Value)} {rs : List RowF} {x0 x1 x2 x3 x4 x5 x6 x7 x8 : RowF} {r r' : RowF} (K : Kit w0 cs (x0 :: x1 :: x2 :: x3 :: x4 :: x5 :: x6 :: x7 :: x8 :: r :: rs) W) (hg : W.grownBy W' r.v.ownBlock) (h : r'.on W') (hv : r'.v = r.v) (hB : r'.B = r.B) : Kit w0 cs (x0 :: x1 :: x2 :: x3 :: x4 :: x5 :: x6 :: x7 :: x8 :: r' :: rs) W' := Kit.mark (pre := [x0, x1, x2, x3, x4, x5, x6, x7, x8]) K hg h hv hB
theorem Kit.lose9 {w0 W W' : World} {cs : List (Addr × Value)} {rs : List RowF} {x0 x1 x2 x3 x4 x5 x6 x7 x8 : RowF} {r : RowF} (K : Kit w0 cs (x0 :: x1 :: x2 :: x3 :: x4 :: x5 :: x6 :: x7 :: x8 :: r :: rs) W) (hg : W.grownBy W' r.v.ownBlock) : Kit w0 cs (x0 :: x1 :: x2 :: x3 :: x4 :: x5 :: x6 :: x7 :: x8 :: rs) W' := (Kit.front (pre := [x0, x1, x2, x3, x4, x5, x6, x7, x8]) K).lose hg
theorem Kit.drop9 {w0 W : World} {cs : List (Addr × Value)} {rs : List RowF} {x0 x1 x2 x3 x4 x5 x6 x7 x8 : RowF} {r : RowF} (K : Kit w0 cs (x0 :: x1 :: x2 :: x3 :: x4 :: x5 :: x6 :: x7 :: x8 :: r :: rs) W) : Kit w0 cs (x0 :: x1 :: x2 :: x3 :: x4 :: x5 :: x6 :: x7 :: x8 :: rs) W := K.sub (fun _ h => h) (.cons_cons _ (.cons_cons _ (.cons_cons _ (.cons_cons _ (.cons_cons _ (.cons_cons _ (.cons_cons _ (.cons_cons _ (.cons_cons _ (.cons _ (List.Sublist.refl _)))))))))))
theorem Kit.r10 {w0 W : World} {cs : List (Addr × Value)} {rs : List RowF} {x0 x1 x2 x3 x4 x5 x6 x7 x8 x9 : RowF} {r : RowF} (K : Kit w0 cs (x0 :: x1 :: x2 :: x3 :: x4 :: x5 :: x6 :: x7 :: x8 :: x9 :: r :: rs) W) : r.on W := K.row r (.tail _ (.tail _ (.tail _ (.tail _ (.tail _ (.tail _ (.tail _ (.tail _ (.tail _ (.tail _ (.head _)))))))))))
theorem Kit.mark10 {w0 W W' : World} {cs : List (Addr × Value)} {rs : List RowF} {x0 x1 x2 x3 x4 x5 x6 x7 x8 x9 : RowF} {r r' : RowF} (K : Kit w0 cs (x0 :: x1 :: x2 :: x3 :: x4 :: x5 :: x6 :: x7 :: x8 :: x9 :: r :: rs) W) (hg : W.grownBy W' r.v.ownBlock) (h : r'.on W') (hv : r'.v = r.v) (hB : r'.B = r.B) : Kit w0 cs (x0 :: x1 :: x2 :: x3 :: x4 :: x5 :: x6 :: x7 :: x8 :: x9 :: r' :: rs) W' := Kit.mark (pre := [x0, x1, x2, x3, x4, x5, x6, x7, x8, x9]) K hg h hv hB
theorem Kit.lose10 {w0 W W' : World} {cs : List (Addr × Value)} {rs : List RowF} {x0 x1 x2 x3 x4 x5 x6 x7 x8 x9 : RowF} {r : RowF} (K : Kit w0 cs (x0 :: x1 :: x2 :: x3 :: x4 :: x5 :: x6 :: x7 :: x8 :: x9 :: r :: rs) W) (hg : W.grownBy W' r.v.ownBlock) : Kit w0 cs (x0 :: x1 :: x2 :: x3 :: x4 :: x5 :: x6 :: x7 :: x8 :: x9 :: rs) W' := (Kit.front (pre := [x0, x1, x2, x3, x4, x5, x6, x7, x8, x9]) K).lose hg
theorem Kit.drop10 {w0 W : World} {cs : List (Addr × Value)} {rs : List RowF} {x0 x1 x2 x3 x4 x5 x6 x7 x8 x9 : RowF} {r : RowF} (K : Kit w0 cs (x0 :: x1 :: x2 :: x3 :: x4 :: x5 :: x6 :: x7 :: x8 :: x9 :: r :: rs) W) : Kit w0 cs (x0 :: x1 :: x2 :: x3 :: x4 :: x5 :: x6 :: x7 :: x8 :: x9 :: rs) W := K.sub (fun _ h => h) (.cons_cons _ (.cons_cons _ (.cons_cons _ (.cons_cons _ (.cons_cons _ (.cons_cons _ (.cons_cons _ (.cons_cons _ (.cons_cons _ (.cons_cons _ (.cons _ (List.Sublist.refl _))))))))))))
theorem Kit.r11 {w0 W : World} {cs : List (Addr × Value)} {rs : List RowF} {x0 x1 x2 x3 x4 x5 x6 x7 x8 x9 x10 : RowF} {r : RowF} (K : Kit w0 cs (x0 :: x1 :: x2 :: x3 :: x4 :: x5 :: x6 :: x7 :: x8 :: x9 :: x10 :: r :: rs) W) : r.on W := K.row r (.tail _ (.tail _ (.tail _ (.tail _ (.tail _ (.tail _ (.tail _ (.tail _ (.tail _ (.tail _ (.tail _ (.head _))))))))))))
theorem Kit.mark11 {w0 W W' : World} {cs : List (Addr × Value)} {rs : List RowF} {x0 x1 x2 x3 x4 x5 x6 x7 x8 x9 x10 : RowF} {r r' : RowF} (K : Kit w0 cs (x0 :: x1 :: x2 :: x3 :: x4 :: x5 :: x6 :: x7 :: x8 :: x9 :: x10 :: r :: rs) W) (hg : W.grownBy W' r.v.ownBlock) (h : r'.on W') (hv : r'.v = r.v) (hB : r'.B = r.B) : Kit w0 cs (x0 :: x1 :: x2 :: x3 :: x4 :: x5 :: x6 :: x7 :: x8 :: x9 :: x10 :: r' :: rs) W' := Kit.mark (pre := [x0, x1, x2, x3, x4, x5, x6, x7, x8, x9, x10]) K hg h hv hB
theorem Kit.lose11 {w0 W W' : World} {cs : List (Addr × Value)} {rs : List RowF} {x0 x1 x2 x3 x4 x5 x6 x7 x8 x9 x10 : RowF} {r : RowF} (K : Kit w0 cs (x0 :: x1 :: x2 :: x3 :: x4 :: x5 :: x6 :: x7 :: x8 :: x9 :: x10 :: r :: rs) W) (hg : W.grownBy W' r.v.ownBlock) : Kit w0 cs (x0 :: x1 :: x2 :: x3 :: x4 :: x5 :: x6 :: x7 :: x8 :: x9 :: x10 :: rs) W' := (Kit.front (pre := [x0, x1, x2, x3, x4, x5, x6, x7, x8, x9, x10]) K).lose hg
theorem Kit.drop11 {w0 W : World} {cs : List (Addr × Value)} {rs : List RowF} {x0 x1 x2 x3 x4 x5 x6 x7 x8 x9 x10 : RowF} {r : RowF} (K : Kit w0 cs (x0 :: x1 :: x2 :: x3 :: x4 :: x5 :: x6 :: x7 :: x8 :: x9 :: x10 :: r :: rs) W) : Kit w0 cs (x0 :: x1 :: x2 :: x3 :: x4 :: x5 :: x6 :: x7 :: x8 :: x9 :: x10 :: rs) W := K.sub (fun _ h => h) (.cons_cons _ (.cons_cons _ (.cons_cons _ (.cons_cons _ (.cons_cons _ (.cons_cons _ (.cons_cons _ (.cons_cons _ (.cons_cons _ (.cons_cons _ (.cons_cons _ (.cons _ (List.Sublist.refl _)))))))))))))

/-- The cells of a new block of one, two, three cells. -/
theorem Kit.box2 {w0 W : World} {cs : List (Addr × Value)} {rs : List RowF} (K : Kit w0 cs rs W) (u v : Value) (t : TypeId) :
    Kit w0 ((⟨W.heap.size, 0, none⟩, u) :: (⟨W.heap.size, 1, none⟩, v) :: cs) rs (W.alloc (.cells #[u, v] t)) := by
  refine K.cells (ds := [(⟨W.heap.size, 0, none⟩, u), (⟨W.heap.size, 1, none⟩, v)]) ((Below.refl _ _).alloc (Nat.le_refl _) _) ?_ ?_
  · intro p hp
    simp only [List.mem_cons, List.not_mem_nil, or_false] at hp
    rcases hp with rfl | rfl <;> simp
  · intro p hp
    simp only [List.mem_cons, List.not_mem_nil, or_false] at hp
    rcases hp with rfl | rfl <;> simp
theorem Kit.box3 {w0 W : World} {cs : List (Addr × Value)} {rs : List RowF} (K : Kit w0 cs rs W) (u v x : Value) (t : TypeId) :
    Kit w0 ((⟨W.heap.size, 0, none⟩, u) :: (⟨W.heap.size, 1, none⟩, v) :: (⟨W.heap.size, 2, none⟩, x) :: cs) rs (W.alloc (.cells #[u, v, x] t)) := by
  refine K.cells (ds := [(⟨W.heap.size, 0, none⟩, u), (⟨W.heap.size, 1, none⟩, v), (⟨W.heap.size, 2, none⟩, x)]) ((Below.refl _ _).alloc (Nat.le_refl _) _) ?_ ?_
  · intro p hp
    simp only [List.mem_cons, List.not_mem_nil, or_false] at hp
    rcases hp with rfl | rfl | rfl <;> simp
  · intro p hp
    simp only [List.mem_cons, List.not_mem_nil, or_false] at hp
    rcases hp with rfl | rfl | rfl <;> simp
theorem blkSince {W W' : World} {p : Nat} {o : Obj} (h : W.heap[p]? = some o) (hb : Below W.heap.size W W') : W'.heap[p]? = some o := (hb.block p (Array.getElem?_eq_some_iff.1 h).1).trans h
theorem blkBoth {W W' : World} {p : Nat} {o : Obj} (h : W.heap[p]? = some o) (hb : Below W.heap.size W W') : W'.heap[p]? = some o ∧ p < W.heap.size := ⟨blkSince h hb, (Array.getElem?_eq_some_iff.1 h).1⟩
theorem blkLt {W : World} {p : Nat} {o : Obj} (h : W.heap[p]? = some o) : p < W.heap.size := (Array.getElem?_eq_some_iff.1 h).1
/-- The cells of a block of three that lies there since W. -/
theorem Kit.got3 {w0 W W' : World} {cs : List (Addr × Value)} {rs : List RowF} {p : Nat} {u v x : Value} {t : TypeId} (K : Kit w0 cs rs W) (hb : Below W.heap.size W W') (h : W'.heap[p]? = some (.cells #[u, v, x] t)) (hp : W.heap.size ≤ p) :
    Kit w0 ((⟨p, 0, none⟩, u) :: (⟨p, 1, none⟩, v) :: (⟨p, 2, none⟩, x) :: cs) rs W' := by
  refine K.cells (ds := [(⟨p, 0, none⟩, u), (⟨p, 1, none⟩, v), (⟨p, 2, none⟩, x)]) hb ?_ ?_
  · intro q hq
    simp only [List.mem_cons, List.not_mem_nil, or_false] at hq
    rcases hq with rfl | rfl | rfl <;> simp [World.cell?, h]
  · intro q hq
    simp only [List.mem_cons, List.not_mem_nil, or_false] at hq
    rcases hq with rfl | rfl | rfl <;> exact hp
/-- A row and a block of three cells that a statement has left. -/
theorem Kit.left3 {w0 W W' : World} {cs : List (Addr × Value)} {rs : List RowF} {r : RowF} {p : Nat} {u v x : Value} {t : TypeId} (K : Kit w0 cs rs W) (hb : Below W.heap.size W W') (h : W'.heap[p]? = some (.cells #[u, v, x] t)) (hp : W.heap.size ≤ p) (hr : r.on W') (hB : W.heap.size ≤ r.B) (hn : r.v.ownBlock ≠ some p) :
    Kit w0 ((⟨p, 0, none⟩, u) :: (⟨p, 1, none⟩, v) :: (⟨p, 2, none⟩, x) :: cs) (r :: rs) W' := by
  have K1 := K.add hb hr hB
  have K2 := K.got3 hb h hp
  refine ⟨K1.bel, K2.cell, K1.row, K1.fresh, K1.apart, fun q hq s hs => ?_⟩
  rcases List.mem_cons.1 hs with rfl | hs
  · rcases hq with _ | ⟨_, _ | ⟨_, _ | ⟨_, hq⟩⟩⟩
    · exact hn
    · exact hn
    · exact hn
    · exact K1.off q hq _ (.head _)
  · exact K2.off q hq s hs
end Go.Proofs.YtapmgbnhobpahaaGreatDoor
