
/- The contracts of MemberOk, of the program and of the model. -/
import Derived.Test.YtplinjepeahahaaMem
namespace Go.Proofs.Ytplinjepeahahaa
open Go.RowKit

abbrev mb (id ep : Int) (v : Value) : Obj := .cells #[.int .i64 id, .int .i64 ep, v] 57
theorem cell3 (w : World) (x y : Int) (v : Value) : (w.alloc (mb x y v)).cell? ⟨w.heap.size, 0, none⟩ = some (.int .i64 x) ∧ (w.alloc (mb x y v)).cell? ⟨w.heap.size, 1, none⟩ = some (.int .i64 y) ∧ (w.alloc (mb x y v)).cell? ⟨w.heap.size, 2, none⟩ = some v := by simp
theorem below_drewN' {n : Nat} {w W : World} (h : Below n w W) (k : Nat) : Below n w (W.drewN k) := ⟨h.os, h.tape, h.output, h.size, h.block⟩

set_option maxHeartbeats 1000000 in
theorem specMemberOk_any {B : Nat} {v : Value} {ks : List (Int × Int)} {w : World} (id ep : Int) (h : Keys B v ks w) :
    Calls Try.prog 32 #[mv id ep v] w fun e w' => e = .returned (.bool (memberB id ep ks)) ∧ Below w.heap.size w w' := by
  obtain ⟨c0, c1, c2⟩ := cell3 w id ep v
  have hB1 := one_below w (mb id ep v)
  have HK : Hid (Keys B v ks (w.alloc (mb id ep v))) := h.below hB1 (fun k e => (h.lt k e).2)
  clear h
  go_enter Try.func32, Try.ntmps32
  go_wp2_with fail
  generalize w.alloc (mb id ep v) = w1 at c0 c1 c2 hB1 HK ⊢
  refine (l1InK_any _ _ _ _).mono ?_
  rintro e w' ⟨rfl, rfl⟩
  cases h1 : decide (1 ≤ id ∧ id ≤ 20) with
  | false =>
    go_wp2
    go_ret
    exact ⟨by show Ending.returned (.bool false) = _; simp [memberB, headB, h1], hB1⟩
  | true =>
  go_wp2_with fail
  refine (l1InK_any _ _ _ _).mono ?_
  rintro e w' ⟨rfl, rfl⟩
  cases h2 : decide (0 ≤ ep ∧ ep ≤ 1000000000) with
  | false =>
    go_wp2
    go_ret
    exact ⟨by show Ending.returned (.bool false) = _; simp [memberB, headB, h2], hB1⟩
  | true =>
  go_wp2_with fail
  refine (specKnownOk_any HK.out).mono ?_
  rintro e w2 ⟨rfl, hb2⟩
  have hB2 := hB1.trans (hb2.mono hB1.size)
  have d2 := cell_since c2 hb2
  obtain ⟨a, c, hv, hm, hrow⟩ := (HK.out.below hb2 (fun k e => (HK.out.lt k e).2)).row
  subst hv
  clear c0 c1 c2 hb2 HK hB1
  cases h3 : knownB ks with
  | false =>
    go_wp2
    go_ret
    exact ⟨by show Ending.returned (.bool false) = _; simp [memberB, headB, h3], hB2⟩
  | true =>
  have HM : Hid (memberB id ep ks = nodesTo ks ks.length) := by
    show memberB id ep ks = _
    simp [memberB, headB, h1, h2, h3]
  clear h1 h2 h3
  have HR : Hid (KRow a ks w2) := hrow
  clear hrow
  unfold maxLen at hm
  generalize hn : ks.length = n at hm d2 HM ⊢
  go_wp2
  go_loopw [3] (fun i wr => ∃ k : Nat, i = .int .i64 ((k : Int) + 1) ∧ (k + 1 ≤ n ∨ k = 0) ∧ nodesTo ks (k + 1) = true ∧ ∃ q, wr = w2.drewN q) (fun i _ => n + 1 - (intOf i).toNat)
  case atStart => exact ⟨0, rfl, .inr rfl, rfl, 0, rfl⟩
  case round =>
    obtain ⟨k, rfl, hkn, hpre, q, rfl⟩ := hrel
    have HP : Hid (nodesTo ks (k + 1) = true) := hpre
    clear hpre
    by_cases hlt : k + 1 < n
    · have hlk : k + 1 < ks.length := by omega
      obtain ⟨g, ha, hg, hseg⟩ : ∃ g, a = some ⟨g, 0, none⟩ ∧ g < w2.heap.size ∧ KSeg g 0 ks w2 := by
        rcases HR.out with e | e
        · rw [e] at hlk; simp at hlk
        · exact e
      subst ha
      have a1 := (hseg k (by omega)).1
      have a2 := (hseg (k + 1) hlk).1
      simp only [Nat.zero_add] at a1 a2
      have HN : Hid (nodeAt ks (k + 1) = !decide (ks[k].1 = ks[k + 1].1)) := by
        show nodeAt ks (k + 1) = _
        unfold nodeAt
        rw [kAt_get ks (k + 1) hlk, Nat.add_sub_cancel, kAt_get ks k (by omega)]
        simp
      clear hseg
      generalize ks[k].1 = x1 at a1 HN
      generalize ks[k + 1].1 = x2 at a2 HN
      by_cases hx : x1 = x2
      · have hx' : (x1 == x2) = true := by simpa using hx
        have HF : Hid (nodesTo ks n = false) := nodesTo_false (m := k + 1) (by rw [HN.out]; simp [hx]) hlt
        subst hx
        go_wp2
        go_quiet (fail)
        go_wp2
        go_ret
        exact ⟨by rw [HM.out, HF.out]; rfl, below_drewN' (below_drewN' hB2 _) _⟩
      · have hx' : (x1 == x2) = false := by simpa using hx
        have HF : Hid (nodesTo ks (k + 1 + 1) = true) := by
          show nodesTo ks (k + 1 + 1) = true
          rw [nodesTo_succ, HP.out, HN.out]; simp [hx]
        go_wp2
        go_quiet (fail)
        go_wp2
        go_roundw
        case rel => exact ⟨k + 1, by go_num, .inl (by omega), HF.out, q + nq, by simp⟩
        case measure => simp [intOf]; omega
    · have HF : Hid (nodesTo ks n = true) := by
        show nodesTo ks n = true
        rcases hkn with e | e
        · have : k + 1 = n := by omega
          rw [← this]; exact HP.out
        · subst e
          have : n = 0 ∨ n = 1 := by omega
          rcases this with e | e <;> rw [e]
          · rfl
          · exact HP.out
      go_wp2
      go_ret
      exact ⟨by rw [HM.out, HF.out]; rfl, below_drewN' hB2 _⟩

set_option maxHeartbeats 1000000 in
theorem memberOk_any {B : Nat} {v : Value} {ks : List (Int × Int)} {w : World} (id ep : Int) (h : Keys B v ks w) :
    Calls Try.prog 34 #[mv id ep v] w fun e w' => e = .returned (.bool (memberB id ep ks)) ∧ Below w.heap.size w w' := by
  obtain ⟨c0, c1, c2⟩ := cell3 w id ep v
  have hB1 := one_below w (mb id ep v)
  have HK : Hid (Keys B v ks (w.alloc (mb id ep v))) := h.below hB1 (fun k e => (h.lt k e).2)
  clear h
  go_enter Try.func34, Try.ntmps34
  go_wp2_with fail
  generalize w.alloc (mb id ep v) = w1 at c0 c1 c2 hB1 HK ⊢
  refine (isMember_any _ _).mono ?_
  rintro e w' ⟨rfl, rfl⟩
  cases h1 : decide (1 ≤ id ∧ id ≤ 20) with
  | false =>
    go_wp2
    go_ret
    exact ⟨by show Ending.returned (.bool false) = _; simp [memberB, headB, h1], hB1⟩
  | true =>
  go_wp2_with fail
  refine (epochOk_any _ _).mono ?_
  rintro e w' ⟨rfl, rfl⟩
  cases h2 : decide (0 ≤ ep ∧ ep ≤ 1000000000) with
  | false =>
    go_wp2
    go_ret
    exact ⟨by show Ending.returned (.bool false) = _; simp [memberB, headB, h2], hB1⟩
  | true =>
  go_wp2_with fail
  refine (knownOk_any HK.out).mono ?_
  rintro e w2 ⟨rfl, hb2⟩
  have hB2 := hB1.trans (hb2.mono hB1.size)
  have d2 := cell_since c2 hb2
  obtain ⟨a, c, hv, hm, hrow⟩ := (HK.out.below hb2 (fun k e => (HK.out.lt k e).2)).row
  subst hv
  clear c0 c1 c2 hb2 HK hB1
  cases h3 : knownB ks with
  | false =>
    go_wp2
    go_ret
    exact ⟨by show Ending.returned (.bool false) = _; simp [memberB, headB, h3], hB2⟩
  | true =>
  have HM : Hid (memberB id ep ks = nodesTo ks ks.length) := by
    show memberB id ep ks = _
    simp [memberB, headB, h1, h2, h3]
  clear h1 h2 h3
  have HR : Hid (KRow a ks w2) := hrow
  clear hrow
  unfold maxLen at hm
  generalize hn : ks.length = n at hm d2 HM ⊢
  go_wp2
  go_loopw [24] (fun i wr => ∃ k : Nat, i = .int .i64 (k : Int) ∧ k ≤ n ∧ nodesTo ks k = true ∧ Below w2.heap.size w2 wr) (fun i _ => n - (intOf i).toNat)
  case atStart => exact ⟨0, rfl, Nat.zero_le _, rfl, Below.refl _ _⟩
  case round =>
    obtain ⟨k, rfl, hkn, hpre, hB⟩ := hrel
    have HP : Hid (nodesTo ks k = true) := hpre
    clear hpre
    have HB : Hid (Below w.heap.size w wr) := hB2.trans (hB.mono hB2.size)
    by_cases hlt : k < n
    · have hlk : k < ks.length := by omega
      obtain ⟨g, ha, hg, hseg⟩ : ∃ g, a = some ⟨g, 0, none⟩ ∧ g < w2.heap.size ∧ KSeg g 0 ks w2 := by
        rcases HR.out with e | e
        · rw [e] at hlk; simp at hlk
        · exact e
      subst ha
      have a1 := (hseg k hlk).1
      have a2 := (hseg k hlk).2
      simp only [Nat.zero_add] at a1 a2
      have e1 := cell_since a1 hB
      have e2 := cell_since a2 hB
      have e3 := cell_since d2 hB
      by_cases hk0 : k = 0
      · subst hk0
        clear a1 a2 hseg
        simp only [Nat.zero_mul, Nat.zero_add] at e1 e2
        generalize ks[0].1 = x1 at e1
        generalize ks[0].2 = x2 at e2
        have HF : Hid (nodesTo ks 1 = true) := rfl
        have HB' : Hid (Below w2.heap.size w2 (wr.alloc (kb x1 x2))) := hB.alloc hB.size _
        go_wp2
        go_quiet (fail)
        go_wp2
        go_roundw
        case rel => exact ⟨1, by go_num, by omega, HF.out, below_drewN' HB'.out _⟩
        case measure => simp [intOf]; omega
      · obtain ⟨m, rfl⟩ : ∃ m, k = m + 1 := ⟨k - 1, by omega⟩
        have a3 := (hseg m (by omega)).1
        simp only [Nat.zero_add] at a3
        have e4 := cell_since a3 hB
        have HN : Hid (nodeAt ks (m + 1) = !decide (ks[m].1 = ks[m + 1].1)) := by
          show nodeAt ks (m + 1) = _
          unfold nodeAt
          rw [kAt_get ks (m + 1) hlk, Nat.add_sub_cancel, kAt_get ks m (by omega)]
          simp
        clear a1 a2 a3 hseg
        generalize ks[m].1 = x0 at e4 HN
        generalize ks[m + 1].1 = x1 at e1 HN
        generalize ks[m + 1].2 = x2 at e2
        have f3 := cell_since e3 (one_below wr (kb x1 x2))
        have f4 := cell_since e4 (one_below wr (kb x1 x2))
        have HB' : Hid (Below w2.heap.size w2 (wr.alloc (kb x1 x2))) := hB.alloc hB.size _
        have HW' : Hid (Below w.heap.size w (wr.alloc (kb x1 x2))) := HB.out.alloc HB.out.size _
        by_cases hx : x0 = x1
        · have hx' : (x0 == x1) = true := by simpa using hx
          have HF : Hid (nodesTo ks n = false) := nodesTo_false (m := m + 1) (by rw [HN.out]; simp [hx]) hlt
          subst hx
          go_wp2
          go_quiet (fail)
          go_wp2
          go_ret
          exact ⟨by rw [HM.out, HF.out]; rfl, below_drewN' HW'.out _⟩
        · have hx' : (x0 == x1) = false := by simpa using hx
          have HF : Hid (nodesTo ks (m + 1 + 1) = true) := by
            show nodesTo ks (m + 1 + 1) = true
            rw [nodesTo_succ, HP.out, HN.out]; simp [hx]
          go_wp2
          go_quiet (fail)
          go_wp2
          go_roundw
          case rel => exact ⟨m + 1 + 1, by go_num, by omega, HF.out, below_drewN' HB'.out _⟩
          case measure => simp [intOf]; omega
    · have HF : Hid (nodesTo ks n = true) := by
        have : k = n := by omega
        rw [← this]; exact HP
      go_wp2
      go_ret
      exact ⟨by rw [HM.out, HF.out]; rfl, HB.out⟩
end Go.Proofs.Ytplinjepeahahaa
