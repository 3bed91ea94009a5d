
/- ServerOk of the program and of the model. -/
import Derived.Test.YtplinjepeahahaaSrv2
import Derived.Test.YtplinjepeahahaaBox3
namespace Go.Proofs.Ytplinjepeahahaa
open Go.RowKit

abbrev svv (ep : Int) (x y : Value) : Value := .agg #[.int .i64 ep, x, y]
abbrev svb (ep : Int) (x y : Value) : Obj := .cells #[.int .i64 ep, x, y] 30
abbrev lsvb (ep : Int) (x y : Value) : Obj := .cells #[.int .i64 ep, x, y] 25
theorem scell3 (w : World) (ep : Int) (x y : Value) : (w.alloc (svb ep x y)).cell? ⟨w.heap.size, 0, none⟩ = some (.int .i64 ep) ∧ (w.alloc (svb ep x y)).cell? ⟨w.heap.size, 1, none⟩ = some x ∧ (w.alloc (svb ep x y)).cell? ⟨w.heap.size, 2, none⟩ = some y := by simp
theorem lscell3 (w : World) (ep : Int) (x y : Value) : (w.alloc (lsvb ep x y)).cell? ⟨w.heap.size, 0, none⟩ = some (.int .i64 ep) ∧ (w.alloc (lsvb ep x y)).cell? ⟨w.heap.size, 1, none⟩ = some x ∧ (w.alloc (lsvb ep x y)).cell? ⟨w.heap.size, 2, none⟩ = some y := by simp

set_option maxHeartbeats 1000000 in
theorem serverOk_any {B C : Nat} {x y : Value} {vs : List Int} {ss : List (Int × Int)} {w : World} (ep : Int) (hx : Ints B x vs w) (hy : Seats C y ss w) :
    Calls Try.prog 12 #[svv ep x y] w fun e w' => e = .returned (.bool (serverB ep vs ss)) ∧ Below w.heap.size w w' := by
  have hB := one_below w (svb ep x y)
  obtain ⟨c0, c1, c2⟩ := scell3 w ep x y
  have hX := hx.since hB
  have hY := hy.since hB
  clear hx hy
  go_enter Try.func12, Try.ntmps12
  go_wp2_with fail
  generalize w.alloc (svb ep x y) = w1 at hB c0 c1 c2 hX hY ⊢
  refine (epochOk_any _ _).mono ?_
  rintro e w' ⟨rfl, rfl⟩
  cases h1 : decide (0 ≤ ep ∧ ep ≤ 1000000000) with
  | false =>
    go_wp2
    go_ret
    exact ⟨by show Ending.returned (.bool false) = _; simp [serverB, h1], hB⟩
  | true =>
  go_wp2_with fail
  refine (versOk_any hX).mono ?_
  rintro e w' ⟨rfl, rfl⟩
  cases h2 : versB vs with
  | false =>
    go_wp2
    go_ret
    exact ⟨by show Ending.returned (.bool false) = _; simp [serverB, h2], hB⟩
  | true =>
  go_wp2_with fail
  refine (seatsOk_any hY).mono ?_
  rintro e w2 ⟨rfl, b2⟩
  go_wp2
  go_ret
  exact ⟨by show Ending.returned (.bool (seatsB ss)) = _; simp [serverB, h1, h2], more hB b2⟩

/-- What is known in the middle of the seats' look. -/
theorem l1In_at {S : World → Prop} (n lo hi : Int) (s : SW S) :
    Calls Try.prog 38 #[.int .i64 n, .int .i64 lo, .int .i64 hi] s.w fun e w' => e = .returned (.bool (decide (lo ≤ n ∧ n ≤ hi))) ∧ w' = s.w := l1InK_any n lo hi s.w

set_option maxHeartbeats 4000000 in
theorem specServerOk_any {B C : Nat} {x y : Value} {vs : List Int} {ss : List (Int × Int)} {w : World} (ep : Int) (hx : Ints B x vs w) (hy : Seats C y ss w) :
    Calls Try.prog 10 #[svv ep x y] w fun e w' => e = .returned (.bool (serverB ep vs ss)) ∧ Below w.heap.size w w' := by
  obtain ⟨a, c, hv, hm, hri⟩ := (hx.since (one_below w (svb ep x y))).row
  obtain ⟨a', c', hv', hm', hrk⟩ := (hy.since (one_below w (svb ep x y))).row
  subst hv hv'
  clear hx hy
  unfold maxLen at hm hm'
  have hB := one_below w (svb ep (.slice a vs.length c) (.slice a' ss.length c'))
  obtain ⟨c0, c1, c2⟩ := scell3 w ep (.slice a vs.length c) (.slice a' ss.length c')
  have HI : Hid (IRow a vs (w.alloc (svb ep (.slice a vs.length c) (.slice a' ss.length c')))) := hri
  have HS : Hid (KRow a' ss (w.alloc (svb ep (.slice a vs.length c) (.slice a' ss.length c')))) := hrk
  clear hri hrk
  cases h1 : decide (0 ≤ ep ∧ ep ≤ 1000000000) with
  | false =>
    go_enter Try.func10, Try.ntmps10
    go_wp2_with fail
    refine (l1InK_any _ _ _ _).mono ?_
    rintro e w' ⟨rfl, rfl⟩
    rw [h1]
    go_wp2
    go_ret
    exact ⟨by show Ending.returned (.bool false) = _; simp [serverB, h1], hB⟩
  | true =>
  by_cases hl : vs.length = 15
  case neg =>
    have hne : ((vs.length : Int) == 15) = false := by simp; omega
    go_enter Try.func10, Try.ntmps10
    go_wp2_with fail
    refine (l1InK_any _ _ _ _).mono ?_
    rintro e w' ⟨rfl, rfl⟩
    rw [h1]
    go_wp2
    go_ret
    exact ⟨by show Ending.returned (.bool false) = _; simp [serverB, versB, hl], hB⟩
  case pos =>
  by_cases hl8 : ss.length ≤ 8
  case neg =>
    have hne : ((vs.length : Int) == 15) = true := by rw [hl]; rfl
    go_enter Try.func10, Try.ntmps10
    go_wp2_with fail
    refine (l1InK_any _ _ _ _).mono ?_
    rintro e w' ⟨rfl, rfl⟩
    rw [h1]
    rw [hl] at hB
    go_wp2
    go_ret
    exact ⟨by show Ending.returned (.bool false) = _; simp [serverB, seatsB, hl8], hB⟩
  case pos =>
  have hne : ((vs.length : Int) == 15) = true := by rw [hl]; rfl
  have HB : Hid (serverB ep vs ss = (versTo vs 15 && seatsTo ss ss.length)) := by show serverB ep vs ss = _; simp [serverB, versB, seatsB, h1, hl, hl8]
  rw [hl] at hne hB c0 c1 c2 HI HS ⊢
  obtain ⟨g, ha, hg, hseg⟩ : ∃ g, a = some ⟨g, 0, none⟩ ∧ g < (w.alloc (svb ep (.slice a 15 c) (.slice a' ss.length c'))).heap.size ∧ ISeg g 0 vs (w.alloc (svb ep (.slice a 15 c) (.slice a' ss.length c'))) := by
    rcases HI.out with e | e
    · rw [e] at hl; simp at hl
    · exact e
  subst ha
  have HG : Hid (ISeg g 0 vs (w.alloc (svb ep (.slice (some ⟨g, 0, none⟩) 15 c) (.slice a' ss.length c')))) := hseg
  clear hseg HI
  generalize hn : ss.length = n at *
  have h8 : decide ((8 : Int) < (n : Int)) = false := decide_eq_false (by omega)
  go_enter Try.func10, Try.ntmps10
  go_wp2_with fail
  generalize w.alloc (svb ep (.slice (some ⟨g, 0, none⟩) 15 c) (.slice a' n c')) = w1 at hB c0 c1 c2 hg HG HS ⊢
  refine (l1InK_any _ _ _ _).mono ?_
  rintro e w' ⟨rfl, hww⟩
  subst w'
  rw [h1]
  clear h1
  go_wp2
  go_loopw [3] (fun i wr => ∃ k : Nat, k ≤ 15 ∧ i = .int .i64 (k : Int) ∧ Hid (versTo vs k = true) ∧ wr = w1) (fun i _ => 15 - (intOf i).toNat)
  case atStart => exact ⟨0, by omega, rfl, rfl, rfl⟩
  case round =>
    obtain ⟨k, hk, rfl, HP, hww⟩ := hrel
    subst hww
    by_cases hlt : k < 15
    · have hlk : k < vs.length := by omega
      have d1 := HG.out k hlk
      rw [Nat.zero_add] at d1
      have HA : Hid (verAt vs k = decide (1 ≤ vs[k] ∧ vs[k] ≤ 1000000000)) := by show verAt vs k = _; unfold verAt; rw [vAt_get vs k hlk]
      generalize vs[k] = z at d1 HA
      cases hz : decide (1 ≤ z ∧ z ≤ 1000000000) with
      | true =>
        have HF : Hid (versTo vs (k + 1) = true) := by show versTo vs (k + 1) = true; rw [versTo_succ, HP.out, HA.out, hz]; rfl
        go_wp2_with fail
        refine (l1InK_any _ _ _ _).mono ?_
        rintro e w' ⟨rfl, hww⟩
        subst w'
        rw [hz]
        go_wp2
        go_roundw
        case rel => exact ⟨k + 1, by omega, by go_num, HF.out, by first | trivial | rfl⟩
        case measure => simp [intOf]; omega
      | false =>
        have HF : Hid (versTo vs 15 = false) := versTo_false (m := k) (by rw [HA.out, hz]) hlt
        go_wp2_with fail
        refine (l1InK_any _ _ _ _).mono ?_
        rintro e w' ⟨rfl, hww⟩
        subst w'
        rw [hz]
        go_wp2
        go_ret
        exact ⟨by show Ending.returned (.bool false) = _; rw [HB.out, HF.out]; rfl, hB⟩
    · have HV : Hid (serverB ep vs ss = seatsTo ss n) := by
        show serverB ep vs ss = _
        have e : k = 15 := by omega
        have := HP.out
        rw [e] at this
        rw [HB.out, this]; simp
      clear HB HP
      go_wp2
      go_loopw [4] (fun i wq => ∃ k : Nat, k ≤ n ∧ i = .int .i64 (k : Int) ∧ Hid (seatsTo ss k = true) ∧ Below wr.heap.size wr wq) (fun i _ => n - (intOf i).toNat)
      case atStart => exact ⟨0, by omega, rfl, rfl, Below.refl _ _⟩
      case round =>
        obtain ⟨k, hk, rfl, HP, hQ⟩ := hrel
        rename World => wq
        have e2 := cell_since c2 hQ
        by_cases hlt : k < n
        · have hlk : k < ss.length := by omega
          obtain ⟨g', ha, hg', hseg⟩ : ∃ g', a' = some ⟨g', 0, none⟩ ∧ g' < wr.heap.size ∧ KSeg g' 0 ss wr := by
            rcases HS.out with e | e
            · rw [e] at hlk; simp at hlk
            · exact e
          subst ha
          obtain ⟨a1, a2⟩ := hseg k hlk
          simp only [Nat.zero_add] at a1 a2
          have m1 := cell_since a1 hQ
          have m2 := cell_since a2 hQ
          have HK : Hid (kAt ss k = ss[k]) := kAt_get ss k hlk
          obtain ⟨x, y, hxy⟩ : ∃ x y, ss[k] = (x, y) := ⟨_, _, rfl⟩
          rw [hxy] at m1 m2 HK
          clear hxy a1 a2
          have HSA : Hid (seatAt ss k = (decide (1 ≤ x ∧ x ≤ 20) && (decide (8 ≤ y ∧ y ≤ 15) && ((decide (k = 0) || decide ((kAt ss (k - 1)).1 < x)) && !takenB ss k y)))) := by
            show seatAt ss k = _
            unfold seatAt
            rw [HK.out]
          have HKS : Hid (KSeg g' 0 ss wr) := hseg
          clear hseg
          have b0 : (wq.alloc (sb x y)).cell? ⟨wq.heap.size, 0, none⟩ = some (.int .i64 x) := by simp
          have b1 : (wq.alloc (sb x y)).cell? ⟨wq.heap.size, 1, none⟩ = some (.int .i64 y) := by simp
          have f2 := cell_since e2 (one_below wq (sb x y))
          have hQa : Below wr.heap.size wr (wq.alloc (sb x y)) := hQ.alloc hQ.size _
          cases h1 : decide (1 ≤ x ∧ x ≤ 20) with
          | false =>
            have HF : Hid (seatsTo ss n = false) := seatsTo_false (m := k) (by rw [HSA.out, h1]; simp) hlt
            go_wp2
            have hS0 : (Cs4 wr ⟨wq.heap.size, 0, none⟩ (.int .i64 x) ⟨wq.heap.size, 1, none⟩ (.int .i64 y) ⟨w.heap.size, 2, none⟩ (.slice (some ⟨g', 0, none⟩) n c') ⟨wq.heap.size, 0, none⟩ (.int .i64 x)) (wq.alloc (sb x y)).drew := ⟨b0, b1, f2, b0, hQa.drew⟩
            have hSN := SW.some hS0
            have hS1 := fun s : SW (Cs4 wr ⟨wq.heap.size, 0, none⟩ (.int .i64 x) ⟨wq.heap.size, 1, none⟩ (.int .i64 y) ⟨w.heap.size, 2, none⟩ (.slice (some ⟨g', 0, none⟩) n c') ⟨wq.heap.size, 0, none⟩ (.int .i64 x)) => s.is.1
            have hS2 := fun s : SW (Cs4 wr ⟨wq.heap.size, 0, none⟩ (.int .i64 x) ⟨wq.heap.size, 1, none⟩ (.int .i64 y) ⟨w.heap.size, 2, none⟩ (.slice (some ⟨g', 0, none⟩) n c') ⟨wq.heap.size, 0, none⟩ (.int .i64 x)) => s.is.2.1
            have hS3 := fun s : SW (Cs4 wr ⟨wq.heap.size, 0, none⟩ (.int .i64 x) ⟨wq.heap.size, 1, none⟩ (.int .i64 y) ⟨w.heap.size, 2, none⟩ (.slice (some ⟨g', 0, none⟩) n c') ⟨wq.heap.size, 0, none⟩ (.int .i64 x)) => s.is.2.2.1
            have hS4 := fun s : SW (Cs4 wr ⟨wq.heap.size, 0, none⟩ (.int .i64 x) ⟨wq.heap.size, 1, none⟩ (.int .i64 y) ⟨w.heap.size, 2, none⟩ (.slice (some ⟨g', 0, none⟩) n c') ⟨wq.heap.size, 0, none⟩ (.int .i64 x)) => s.is.2.2.2.1
            refine wp_region_S (Cs4 wr ⟨wq.heap.size, 0, none⟩ (.int .i64 x) ⟨wq.heap.size, 1, none⟩ (.int .i64 y) ⟨w.heap.size, 2, none⟩ (.slice (some ⟨g', 0, none⟩) n c') ⟨wq.heap.size, 0, none⟩ (.int .i64 x)) (by kernel_rfl) (by kernel_rfl) hS0 ?_
            repeat (go_big_quiet_step ((rename_i s0; go_at_call 38; refine (l1In_at _ _ _ s0).mono ?_; rintro e w' ⟨rfl, rfl⟩; rw [h1]; exact ⟨rfl, ⟨s0, rfl⟩⟩)))
            refine wpQuiet_nil ?_
            rintro _ ⟨s, rfl⟩
            obtain ⟨q1, q2, q3, q4, hQf⟩ := s.is
            clear hS0 hSN hS1 hS2 hS3 hS4 b0 b1 f2 hQa
            generalize s.w = wz at *
            go_wp2
            go_ret
            exact ⟨by show Ending.returned (.bool false) = _; rw [HV.out, HF.out], more hB hQf⟩

          | true =>
            by_cases hk0 : k = 0
            · subst hk0
              cases h2 : decide (8 ≤ y ∧ y ≤ 15) with
              | false =>
                have HF : Hid (seatsTo ss n = false) := seatsTo_false (m := 0) (by rw [HSA.out, h2]; simp) hlt
                go_wp2
                have hS0 : (Cs4 wr ⟨wq.heap.size, 0, none⟩ (.int .i64 x) ⟨wq.heap.size, 1, none⟩ (.int .i64 y) ⟨w.heap.size, 2, none⟩ (.slice (some ⟨g', 0, none⟩) n c') ⟨wq.heap.size, 0, none⟩ (.int .i64 x)) (wq.alloc (sb x y)).drew := ⟨b0, b1, f2, b0, hQa.drew⟩
                have hSN := SW.some hS0
                have hS1 := fun s : SW (Cs4 wr ⟨wq.heap.size, 0, none⟩ (.int .i64 x) ⟨wq.heap.size, 1, none⟩ (.int .i64 y) ⟨w.heap.size, 2, none⟩ (.slice (some ⟨g', 0, none⟩) n c') ⟨wq.heap.size, 0, none⟩ (.int .i64 x)) => s.is.1
                have hS2 := fun s : SW (Cs4 wr ⟨wq.heap.size, 0, none⟩ (.int .i64 x) ⟨wq.heap.size, 1, none⟩ (.int .i64 y) ⟨w.heap.size, 2, none⟩ (.slice (some ⟨g', 0, none⟩) n c') ⟨wq.heap.size, 0, none⟩ (.int .i64 x)) => s.is.2.1
                have hS3 := fun s : SW (Cs4 wr ⟨wq.heap.size, 0, none⟩ (.int .i64 x) ⟨wq.heap.size, 1, none⟩ (.int .i64 y) ⟨w.heap.size, 2, none⟩ (.slice (some ⟨g', 0, none⟩) n c') ⟨wq.heap.size, 0, none⟩ (.int .i64 x)) => s.is.2.2.1
                have hS4 := fun s : SW (Cs4 wr ⟨wq.heap.size, 0, none⟩ (.int .i64 x) ⟨wq.heap.size, 1, none⟩ (.int .i64 y) ⟨w.heap.size, 2, none⟩ (.slice (some ⟨g', 0, none⟩) n c') ⟨wq.heap.size, 0, none⟩ (.int .i64 x)) => s.is.2.2.2.1
                refine wp_region_S (Cs4 wr ⟨wq.heap.size, 0, none⟩ (.int .i64 x) ⟨wq.heap.size, 1, none⟩ (.int .i64 y) ⟨w.heap.size, 2, none⟩ (.slice (some ⟨g', 0, none⟩) n c') ⟨wq.heap.size, 0, none⟩ (.int .i64 x)) (by kernel_rfl) (by kernel_rfl) hS0 ?_
                repeat (go_big_quiet_step ((rename_i s0; go_at_call 38; refine (l1In_at _ _ _ s0).mono ?_; rintro e w' ⟨rfl, rfl⟩; (first | rw [h1] | rw [h2]); exact ⟨rfl, ⟨s0, rfl⟩⟩)))
                refine wpQuiet_nil ?_
                rintro _ ⟨s, rfl⟩
                obtain ⟨q1, q2, q3, q4, hQf⟩ := s.is
                clear hS0 hSN hS1 hS2 hS3 hS4 b0 b1 f2 hQa
                generalize s.w = wz at *
                go_wp2
                go_ret
                exact ⟨by show Ending.returned (.bool false) = _; rw [HV.out, HF.out], more hB hQf⟩

              | true =>
                go_wp2
                have hS0 : (Cs4 wr ⟨wq.heap.size, 0, none⟩ (.int .i64 x) ⟨wq.heap.size, 1, none⟩ (.int .i64 y) ⟨w.heap.size, 2, none⟩ (.slice (some ⟨g', 0, none⟩) n c') ⟨wq.heap.size, 0, none⟩ (.int .i64 x)) (wq.alloc (sb x y)).drew := ⟨b0, b1, f2, b0, hQa.drew⟩
                have hSN := SW.some hS0
                have hS1 := fun s : SW (Cs4 wr ⟨wq.heap.size, 0, none⟩ (.int .i64 x) ⟨wq.heap.size, 1, none⟩ (.int .i64 y) ⟨w.heap.size, 2, none⟩ (.slice (some ⟨g', 0, none⟩) n c') ⟨wq.heap.size, 0, none⟩ (.int .i64 x)) => s.is.1
                have hS2 := fun s : SW (Cs4 wr ⟨wq.heap.size, 0, none⟩ (.int .i64 x) ⟨wq.heap.size, 1, none⟩ (.int .i64 y) ⟨w.heap.size, 2, none⟩ (.slice (some ⟨g', 0, none⟩) n c') ⟨wq.heap.size, 0, none⟩ (.int .i64 x)) => s.is.2.1
                have hS3 := fun s : SW (Cs4 wr ⟨wq.heap.size, 0, none⟩ (.int .i64 x) ⟨wq.heap.size, 1, none⟩ (.int .i64 y) ⟨w.heap.size, 2, none⟩ (.slice (some ⟨g', 0, none⟩) n c') ⟨wq.heap.size, 0, none⟩ (.int .i64 x)) => s.is.2.2.1
                have hS4 := fun s : SW (Cs4 wr ⟨wq.heap.size, 0, none⟩ (.int .i64 x) ⟨wq.heap.size, 1, none⟩ (.int .i64 y) ⟨w.heap.size, 2, none⟩ (.slice (some ⟨g', 0, none⟩) n c') ⟨wq.heap.size, 0, none⟩ (.int .i64 x)) => s.is.2.2.2.1
                refine wp_region_S (Cs4 wr ⟨wq.heap.size, 0, none⟩ (.int .i64 x) ⟨wq.heap.size, 1, none⟩ (.int .i64 y) ⟨w.heap.size, 2, none⟩ (.slice (some ⟨g', 0, none⟩) n c') ⟨wq.heap.size, 0, none⟩ (.int .i64 x)) (by kernel_rfl) (by kernel_rfl) hS0 ?_
                repeat (go_big_quiet_step ((rename_i s0; go_at_call 38; refine (l1In_at _ _ _ s0).mono ?_; rintro e w' ⟨rfl, rfl⟩; (first | rw [h1] | rw [h2]); exact ⟨rfl, ⟨s0, rfl⟩⟩)))
                refine wpQuiet_nil ?_
                rintro _ ⟨s, rfl⟩
                obtain ⟨q1, q2, q3, q4, hQf⟩ := s.is
                clear hS0 hSN hS1 hS2 hS3 hS4 b0 b1 f2 hQa
                generalize s.w = wz at *
                have HQ : Hid (Below wr.heap.size wr wz) := hQf
                have hsl : wz.cell? ⟨w.heap.size, 2, none⟩ = some (.slice (some ⟨g', 0, none⟩) n c') := q3
                clear q1 q3 q4
                go_wp2
                have HF : Hid (seatsTo ss 1 = true) := by
                  show seatsTo ss (0 + 1) = true
                  rw [seatsTo_succ, HP.out, HSA.out, h1, h2]; rfl
                refine wp_loop_rounds 1 ?_
                rw [rounds_succ]
                go_wp2
                go_roundw
                case rel => exact ⟨1, by omega, by go_num, HF.out, HQ.out⟩
                case measure => simp [intOf]; omega
            · obtain ⟨m, rfl⟩ : ∃ m, k = m + 1 := ⟨k - 1, by omega⟩
              have a3 := (HKS.out m (by omega)).1
              simp only [Nat.zero_add] at a3
              have c3 := cell_since a3 hQ
              have HM : Hid ((kAt ss (m + 1 - 1)).1 = ss[m].1) := by show (kAt ss (m + 1 - 1)).1 = _; rw [Nat.add_sub_cancel, kAt_get ss m (by omega)]
              clear a3
              generalize ss[m].1 = z at c3 HM
              have f3 := cell_since c3 (one_below wq (sb x y))
              by_cases hz : z < x
              · have hz' : decide (x ≤ z) = false := decide_eq_false (by omega)
                cases h2 : decide (8 ≤ y ∧ y ≤ 15) with
                | false =>
                  have HF : Hid (seatsTo ss n = false) := seatsTo_false (m := m + 1) (by rw [HSA.out, h2]; simp) hlt
                  go_wp2
                  have hS0 : (Cs4 wr ⟨wq.heap.size, 0, none⟩ (.int .i64 x) ⟨wq.heap.size, 1, none⟩ (.int .i64 y) ⟨w.heap.size, 2, none⟩ (.slice (some ⟨g', 0, none⟩) n c') ⟨g', m * 2, none⟩ (.int .i64 z)) (wq.alloc (sb x y)).drew := ⟨b0, b1, f2, f3, hQa.drew⟩
                  have hSN := SW.some hS0
                  have hS1 := fun s : SW (Cs4 wr ⟨wq.heap.size, 0, none⟩ (.int .i64 x) ⟨wq.heap.size, 1, none⟩ (.int .i64 y) ⟨w.heap.size, 2, none⟩ (.slice (some ⟨g', 0, none⟩) n c') ⟨g', m * 2, none⟩ (.int .i64 z)) => s.is.1
                  have hS2 := fun s : SW (Cs4 wr ⟨wq.heap.size, 0, none⟩ (.int .i64 x) ⟨wq.heap.size, 1, none⟩ (.int .i64 y) ⟨w.heap.size, 2, none⟩ (.slice (some ⟨g', 0, none⟩) n c') ⟨g', m * 2, none⟩ (.int .i64 z)) => s.is.2.1
                  have hS3 := fun s : SW (Cs4 wr ⟨wq.heap.size, 0, none⟩ (.int .i64 x) ⟨wq.heap.size, 1, none⟩ (.int .i64 y) ⟨w.heap.size, 2, none⟩ (.slice (some ⟨g', 0, none⟩) n c') ⟨g', m * 2, none⟩ (.int .i64 z)) => s.is.2.2.1
                  have hS4 := fun s : SW (Cs4 wr ⟨wq.heap.size, 0, none⟩ (.int .i64 x) ⟨wq.heap.size, 1, none⟩ (.int .i64 y) ⟨w.heap.size, 2, none⟩ (.slice (some ⟨g', 0, none⟩) n c') ⟨g', m * 2, none⟩ (.int .i64 z)) => s.is.2.2.2.1
                  refine wp_region_S (Cs4 wr ⟨wq.heap.size, 0, none⟩ (.int .i64 x) ⟨wq.heap.size, 1, none⟩ (.int .i64 y) ⟨w.heap.size, 2, none⟩ (.slice (some ⟨g', 0, none⟩) n c') ⟨g', m * 2, none⟩ (.int .i64 z)) (by kernel_rfl) (by kernel_rfl) hS0 ?_
                  repeat (go_big_quiet_step ((rename_i s0; go_at_call 38; refine (l1In_at _ _ _ s0).mono ?_; rintro e w' ⟨rfl, rfl⟩; (first | rw [h1] | rw [h2]); exact ⟨rfl, ⟨s0, rfl⟩⟩)))
                  refine wpQuiet_nil ?_
                  rintro _ ⟨s, rfl⟩
                  obtain ⟨q1, q2, q3, q4, hQf⟩ := s.is
                  clear hS0 hSN hS1 hS2 hS3 hS4 b0 b1 f2 hQa
                  generalize s.w = wz at *
                  go_wp2
                  go_ret
                  exact ⟨by show Ending.returned (.bool false) = _; rw [HV.out, HF.out], more hB hQf⟩

                | true =>
                  go_wp2
                  have hS0 : (Cs4 wr ⟨wq.heap.size, 0, none⟩ (.int .i64 x) ⟨wq.heap.size, 1, none⟩ (.int .i64 y) ⟨w.heap.size, 2, none⟩ (.slice (some ⟨g', 0, none⟩) n c') ⟨g', m * 2, none⟩ (.int .i64 z)) (wq.alloc (sb x y)).drew := ⟨b0, b1, f2, f3, hQa.drew⟩
                  have hSN := SW.some hS0
                  have hS1 := fun s : SW (Cs4 wr ⟨wq.heap.size, 0, none⟩ (.int .i64 x) ⟨wq.heap.size, 1, none⟩ (.int .i64 y) ⟨w.heap.size, 2, none⟩ (.slice (some ⟨g', 0, none⟩) n c') ⟨g', m * 2, none⟩ (.int .i64 z)) => s.is.1
                  have hS2 := fun s : SW (Cs4 wr ⟨wq.heap.size, 0, none⟩ (.int .i64 x) ⟨wq.heap.size, 1, none⟩ (.int .i64 y) ⟨w.heap.size, 2, none⟩ (.slice (some ⟨g', 0, none⟩) n c') ⟨g', m * 2, none⟩ (.int .i64 z)) => s.is.2.1
                  have hS3 := fun s : SW (Cs4 wr ⟨wq.heap.size, 0, none⟩ (.int .i64 x) ⟨wq.heap.size, 1, none⟩ (.int .i64 y) ⟨w.heap.size, 2, none⟩ (.slice (some ⟨g', 0, none⟩) n c') ⟨g', m * 2, none⟩ (.int .i64 z)) => s.is.2.2.1
                  have hS4 := fun s : SW (Cs4 wr ⟨wq.heap.size, 0, none⟩ (.int .i64 x) ⟨wq.heap.size, 1, none⟩ (.int .i64 y) ⟨w.heap.size, 2, none⟩ (.slice (some ⟨g', 0, none⟩) n c') ⟨g', m * 2, none⟩ (.int .i64 z)) => s.is.2.2.2.1
                  refine wp_region_S (Cs4 wr ⟨wq.heap.size, 0, none⟩ (.int .i64 x) ⟨wq.heap.size, 1, none⟩ (.int .i64 y) ⟨w.heap.size, 2, none⟩ (.slice (some ⟨g', 0, none⟩) n c') ⟨g', m * 2, none⟩ (.int .i64 z)) (by kernel_rfl) (by kernel_rfl) hS0 ?_
                  repeat (go_big_quiet_step ((rename_i s0; go_at_call 38; refine (l1In_at _ _ _ s0).mono ?_; rintro e w' ⟨rfl, rfl⟩; (first | rw [h1] | rw [h2]); exact ⟨rfl, ⟨s0, rfl⟩⟩)))
                  refine wpQuiet_nil ?_
                  rintro _ ⟨s, rfl⟩
                  obtain ⟨q1, q2, q3, q4, hQf⟩ := s.is
                  clear hS0 hSN hS1 hS2 hS3 hS4 b0 b1 f2 hQa
                  generalize s.w = wz at *
                  have HQ : Hid (Below wr.heap.size wr wz) := hQf
                  have hsl : wz.cell? ⟨w.heap.size, 2, none⟩ = some (.slice (some ⟨g', 0, none⟩) n c') := q3
                  clear q1 q3 q4
                  go_wp2
                  go_loopw [6] (fun i wi => ∃ j : Nat, j ≤ (m + 1) ∧ i = .int .i64 (j : Int) ∧ Hid (takenB ss j y = false) ∧ ∃ q, wi = wz.drewN q) (fun i _ => (m + 1) - (intOf i).toNat)
                  case atStart => exact ⟨0, by omega, rfl, rfl, 0, rfl⟩
                  case round =>
                    obtain ⟨j, hj, rfl, HJ, q, rfl⟩ := hrel
                    by_cases hjk : j < (m + 1)
                    · have hjl : j < ss.length := by omega
                      have r2 := (HKS.out j hjl).2
                      simp only [Nat.zero_add] at r2
                      have u2 := cell_since r2 hQf
                      have HU : Hid ((kAt ss j).2 = ss[j].2) := by show (kAt ss j).2 = _; rw [kAt_get ss j hjl]
                      clear r2
                      generalize ss[j].2 = t at u2 HU
                      by_cases ht : t = y
                      · have ht' : (t == y) = true := by simpa using ht
                        have HF : Hid (seatsTo ss n = false) := seatsTo_false (m := (m + 1)) (by rw [HSA.out, takenB_true (HU.out.trans ht) hjk]; simp) hlt
                        subst ht
                        go_wp2
                        go_quiet (fail)
                        go_wp2
                        go_ret
                        exact ⟨by show Ending.returned (.bool false) = _; rw [HV.out, HF.out], below_drewN2 (below_drewN2 (more hB HQ.out) _) _⟩
                      · have ht' : (t == y) = false := by simpa using ht
                        have HF : Hid (takenB ss (j + 1) y = false) := by show takenB ss (j + 1) y = false; rw [takenB_succ, HJ.out, HU.out]; simp [ht]
                        go_wp2
                        go_quiet (fail)
                        go_wp2
                        go_roundw
                        case rel => exact ⟨j + 1, by omega, by go_num, HF.out, q + nq, by simp⟩
                        case measure => simp [intOf]; omega
                    · have hje : j = (m + 1) := by omega
                      have HF : Hid (seatsTo ss ((m + 1) + 1) = true) := by
                        show seatsTo ss ((m + 1) + 1) = true
                        have := HJ.out
                        rw [hje] at this
                        rw [seatsTo_succ, HP.out, HSA.out, HM.out, this, h1, h2]; simp [hz]
                      go_wp2
                      go_roundw
                      case rel => exact ⟨(m + 1) + 1, by omega, by go_num, HF.out, below_drewN2 HQ.out _⟩
                      case measure => simp [intOf]; omega

              · have hz' : x ≤ z := by omega
                have HF : Hid (seatsTo ss n = false) := seatsTo_false (m := m + 1) (by rw [HSA.out, HM.out]; simp [hz]) hlt
                go_wp2
                have hS0 : (Cs4 wr ⟨wq.heap.size, 0, none⟩ (.int .i64 x) ⟨wq.heap.size, 1, none⟩ (.int .i64 y) ⟨w.heap.size, 2, none⟩ (.slice (some ⟨g', 0, none⟩) n c') ⟨g', m * 2, none⟩ (.int .i64 z)) (wq.alloc (sb x y)).drew := ⟨b0, b1, f2, f3, hQa.drew⟩
                have hSN := SW.some hS0
                have hS1 := fun s : SW (Cs4 wr ⟨wq.heap.size, 0, none⟩ (.int .i64 x) ⟨wq.heap.size, 1, none⟩ (.int .i64 y) ⟨w.heap.size, 2, none⟩ (.slice (some ⟨g', 0, none⟩) n c') ⟨g', m * 2, none⟩ (.int .i64 z)) => s.is.1
                have hS2 := fun s : SW (Cs4 wr ⟨wq.heap.size, 0, none⟩ (.int .i64 x) ⟨wq.heap.size, 1, none⟩ (.int .i64 y) ⟨w.heap.size, 2, none⟩ (.slice (some ⟨g', 0, none⟩) n c') ⟨g', m * 2, none⟩ (.int .i64 z)) => s.is.2.1
                have hS3 := fun s : SW (Cs4 wr ⟨wq.heap.size, 0, none⟩ (.int .i64 x) ⟨wq.heap.size, 1, none⟩ (.int .i64 y) ⟨w.heap.size, 2, none⟩ (.slice (some ⟨g', 0, none⟩) n c') ⟨g', m * 2, none⟩ (.int .i64 z)) => s.is.2.2.1
                have hS4 := fun s : SW (Cs4 wr ⟨wq.heap.size, 0, none⟩ (.int .i64 x) ⟨wq.heap.size, 1, none⟩ (.int .i64 y) ⟨w.heap.size, 2, none⟩ (.slice (some ⟨g', 0, none⟩) n c') ⟨g', m * 2, none⟩ (.int .i64 z)) => s.is.2.2.2.1
                refine wp_region_S (Cs4 wr ⟨wq.heap.size, 0, none⟩ (.int .i64 x) ⟨wq.heap.size, 1, none⟩ (.int .i64 y) ⟨w.heap.size, 2, none⟩ (.slice (some ⟨g', 0, none⟩) n c') ⟨g', m * 2, none⟩ (.int .i64 z)) (by kernel_rfl) (by kernel_rfl) hS0 ?_
                repeat (go_big_quiet_step ((rename_i s0; go_at_call 38; refine (l1In_at _ _ _ s0).mono ?_; rintro e w' ⟨rfl, rfl⟩; rw [h1]; exact ⟨rfl, ⟨s0, rfl⟩⟩)))
                refine wpQuiet_nil ?_
                rintro _ ⟨s, rfl⟩
                obtain ⟨q1, q2, q3, q4, hQf⟩ := s.is
                clear hS0 hSN hS1 hS2 hS3 hS4 b0 b1 f2 hQa
                generalize s.w = wz at *
                go_wp2
                go_ret
                exact ⟨by show Ending.returned (.bool false) = _; rw [HV.out, HF.out], more hB hQf⟩

        · have : k = n := by omega
          subst this
          go_wp2
          go_ret
          exact ⟨by show Ending.returned (.bool true) = _; rw [HV.out, HP.out], more hB hQ⟩

end Go.Proofs.Ytplinjepeahahaa
