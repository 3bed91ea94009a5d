
/- seatsOk of the program: at most eight seats by rising member, with unlike leaves. -/
import Derived.Test.YtplinjepeahahaaSrv
namespace Go.Proofs.Ytplinjepeahahaa
open Go.RowKit

/-- The array of taken leaves when m seats have been looked at. -/
def Taken (T : Nat) (ss : List (Int × Int)) (m : Nat) (W : World) : Prop := ∀ l : Nat, l < 16 → W.cell? ⟨T, l, none⟩ = some (.bool (takenB ss m (l : Int))) ∧ W.frozen? ⟨T, l, none⟩ = false
theorem Taken.later {T : Nat} {ss : List (Int × Int)} {m : Nat} {W W' : World} (h : Taken T ss m W) (hb : Below W.heap.size W W') (hT : T < W.heap.size) : Taken T ss m W' := fun l hl =>
  ⟨(hb.cell (p := ⟨T, l, none⟩) hT).trans (h l hl).1, (hb.frozen (p := ⟨T, l, none⟩) hT).trans (h l hl).2⟩
theorem Taken.set {T : Nat} {ss : List (Int × Int)} {m n : Nat} {W : World} (h : Taken T ss m W) (hn : n < 16) (hm : (kAt ss m).2 = (n : Int)) : Taken T ss (m + 1) (W.setCell ⟨T, n, none⟩ (.bool true)) := fun l hl => by
  refine ⟨?_, by rw [World.frozen?_setCell]; exact (h l hl).2⟩
  rw [takenB_succ, hm]
  by_cases e : l = n
  · subst e
    exact (World.cell?_setCell_same _ _ _ (h l hl).1).trans (by simp)
  · refine (World.cell?_setCell_other _ _ _ _ (fun e' => e (by injection e' with _ h2; exact h2.symm))).trans ((h l hl).1.trans ?_)
    have : decide ((n : Int) = (l : Int)) = false := decide_eq_false (by omega)
    rw [this, Bool.or_false]
theorem below_drewN2 {n : Nat} {w W : World} (h : Below n w W) (k : Nat) : Below n w (W.drewN k) := ⟨h.os, h.tape, h.output, h.size, h.block⟩

set_option maxHeartbeats 2000000 in
theorem seatsOk_any {B : Nat} {v : Value} {ss : List (Int × Int)} {w : World} (h : Seats B v ss w) :
    Calls Try.prog 43 #[v] w fun e w' => e = .returned (.bool (seatsB ss)) ∧ Below w.heap.size w w' := by
  obtain ⟨a, c, rfl, hm, hrow⟩ := h.row
  clear h
  by_cases hl : ss.length ≤ 8
  · have HV : Hid (seatsB ss = seatsTo ss ss.length) := by show seatsB ss = _; simp [seatsB, hl]
    have HR : Hid (KRow a ss w) := hrow
    clear hrow hm
    have HT0 : Hid (Taken w.heap.size ss 0 (w.alloc (.cells #[.bool false, .bool false, .bool false, .bool false, .bool false, .bool false, .bool false, .bool false, .bool false, .bool false, .bool false, .bool false, .bool false, .bool false, .bool false, .bool false] 86))) := fun l hl => by
      have : l = 0 ∨ l = 1 ∨ l = 2 ∨ l = 3 ∨ l = 4 ∨ l = 5 ∨ l = 6 ∨ l = 7 ∨ l = 8 ∨ l = 9 ∨ l = 10 ∨ l = 11 ∨ l = 12 ∨ l = 13 ∨ l = 14 ∨ l = 15 := by omega
      rcases this with e | e | e | e | e | e | e | e | e | e | e | e | e | e | e | e <;> subst e <;> simp [takenB]
    have hB0 := one_below w (.cells #[.bool false, .bool false, .bool false, .bool false, .bool false, .bool false, .bool false, .bool false, .bool false, .bool false, .bool false, .bool false, .bool false, .bool false, .bool false, .bool false] 86)
    have hT0 : w.heap.size < (w.alloc (.cells #[.bool false, .bool false, .bool false, .bool false, .bool false, .bool false, .bool false, .bool false, .bool false, .bool false, .bool false, .bool false, .bool false, .bool false, .bool false, .bool false] 86)).heap.size := by simp
    generalize hn : ss.length = n at hl HV ⊢
    go_enter Try.func43, Try.ntmps43
    go_wp2
    generalize w.alloc (.cells #[.bool false, .bool false, .bool false, .bool false, .bool false, .bool false, .bool false, .bool false, .bool false, .bool false, .bool false, .bool false, .bool false, .bool false, .bool false, .bool false] 86) = w1 at HT0 hB0 hT0 ⊢
    go_loopw [11] (fun i wr => ∃ k : Nat, k ≤ n ∧ i = .int .i64 (k : Int) ∧ Hid (seatsTo ss k = true) ∧ Hid (Taken w.heap.size ss k wr) ∧ Below w.heap.size w wr ∧ w.heap.size < wr.heap.size) (fun i _ => n - (intOf i).toNat)
    case atStart => exact ⟨0, by omega, rfl, rfl, HT0, hB0, hT0⟩
    case round =>
      obtain ⟨k, hk, rfl, HP, HT, hB, hTl⟩ := hrel
      clear HT0 hB0 hT0
      by_cases hlt : k < n
      · have hlk : k < ss.length := by omega
        obtain ⟨g, ha, hg, hseg⟩ : ∃ g, a = some ⟨g, 0, none⟩ ∧ g < w.heap.size ∧ KSeg g 0 ss w := by
          rcases HR.out with e | e
          · rw [e] at hlk; simp at hlk
          · exact e
        subst ha
        obtain ⟨a1, a2⟩ := hseg k hlk
        simp only [Nat.zero_add] at a1 a2
        have c1 : wr.cell? ⟨g, k * 2, none⟩ = some (.int .i64 ss[k].1) := (hB.cell (p := ⟨g, k * 2, none⟩) hg).trans a1
        have c2 : wr.cell? ⟨g, k * 2 + 1, none⟩ = some (.int .i64 ss[k].2) := (hB.cell (p := ⟨g, k * 2 + 1, none⟩) hg).trans a2
        clear a1 a2
        have HK : Hid (kAt ss k = ss[k]) := kAt_get ss k hlk
        obtain ⟨x, y, hxy⟩ : ∃ x y, ss[k] = (x, y) := ⟨_, _, rfl⟩
        rw [hxy] at c1 c2 HK
        clear hxy
        have HS : Hid (seatAt ss k = (decide (1 ≤ x ∧ x ≤ 20) && (decide (8 ≤ y ∧ y ≤ 15) && ((decide (k = 0) || decide ((kAt ss (k - 1)).1 < x)) && !takenB ss k y)))) := by
          show seatAt ss k = _
          unfold seatAt
          rw [HK.out]
        have HKS : Hid (KSeg g 0 ss w) := hseg
        clear hseg
        have hB1 : Below w.heap.size w (wr.alloc (sb x y)) := hB.alloc hB.size _
        cases h1 : decide (1 ≤ x ∧ x ≤ 20) with
        | false =>
          have HF : Hid (seatsTo ss n = false) := seatsTo_false (m := k) (by rw [HS.out, h1]; rfl) hlt
          go_wp2_with fail
          refine (isMember_any _ _).mono ?_
          rintro e w' ⟨rfl, rfl⟩
          rw [h1]
          go_wp2
          go_ret
          exact ⟨by rw [HV.out, HF.out]; rfl, hB1⟩
        | true =>
        cases h2 : decide (8 ≤ y ∧ y ≤ 15) with
        | false =>
          have HF : Hid (seatsTo ss n = false) := seatsTo_false (m := k) (by rw [HS.out, h2]; simp) hlt
          go_wp2_with fail
          refine (isMember_any _ _).mono ?_
          rintro e w' ⟨rfl, rfl⟩
          rw [h1]
          go_wp2_with fail
          refine (isLeaf_any _ _).mono ?_
          rintro e w' ⟨rfl, rfl⟩
          rw [h2]
          go_wp2
          go_ret
          exact ⟨by rw [HV.out, HF.out]; rfl, hB1⟩
        | true =>
        have hy := of_decide_eq_true h2
        obtain ⟨l, rfl⟩ : ∃ l : Nat, y = (l : Int) := ⟨y.toNat, by omega⟩
        have hl16 : l < 16 := by omega
        obtain ⟨t1, t2⟩ := HT.out l hl16
        have tc := cell_since t1 (one_below wr (sb x (l : Int)))
        have tf : (wr.alloc (sb x (l : Int))).frozen? ⟨w.heap.size, l, none⟩ = false := ((one_below wr (sb x (l : Int))).frozen (p := ⟨w.heap.size, l, none⟩) hTl).trans t2
        clear t1 t2
        cases ht : takenB ss k (l : Int) with
        | true =>
          rw [ht] at tc
          have HF : Hid (seatsTo ss n = false) := seatsTo_false (m := k) (by rw [HS.out, ht]; simp) hlt
          go_wp2_with fail
          refine (isMember_any _ _).mono ?_
          rintro e w' ⟨rfl, rfl⟩
          rw [h1]
          go_wp2_with fail
          refine (isLeaf_any _ _).mono ?_
          rintro e w' ⟨rfl, rfl⟩
          rw [h2]
          go_wp2
          go_ret
          exact ⟨by rw [HV.out, HF.out]; rfl, hB1⟩
        | false =>
        rw [ht] at tc
        have HT1 : Hid (Taken w.heap.size ss (k + 1) ((wr.alloc (sb x (l : Int))).setCell ⟨w.heap.size, l, none⟩ (.bool true))) := (HT.out.later (one_below _ _) hTl).set hl16 (by rw [HK.out])
        have HBs : Hid (Below w.heap.size w ((wr.alloc (sb x (l : Int))).setCell ⟨w.heap.size, l, none⟩ (.bool true))) := hB1.setCell (by simp) _
        by_cases hk0 : k = 0
        · subst hk0
          have HF : Hid (seatsTo ss 1 = true) := by show seatsTo ss 1 = true; rw [seatsTo_succ, HP.out, HS.out, h1, h2, ht]; rfl
          go_wp2_with fail
          refine (isMember_any _ _).mono ?_
          rintro e w' ⟨rfl, rfl⟩
          rw [h1]
          go_wp2_with fail
          refine (isLeaf_any _ _).mono ?_
          rintro e w' ⟨rfl, rfl⟩
          rw [h2]
          go_wp2
          go_quiet (fail)
          go_wp2
          go_roundw
          case rel => exact ⟨1, by omega, by go_num, HF.out, HT1.out, below_drewN2 HBs.out _, by simp; omega⟩
          case measure => simp [intOf]; omega
        · obtain ⟨m, rfl⟩ : ∃ m, k = m + 1 := ⟨k - 1, by omega⟩
          have a3 := (HKS.out m (by omega)).1
          simp only [Nat.zero_add] at a3
          have c3 : wr.cell? ⟨g, m * 2, none⟩ = some (.int .i64 ss[m].1) := (hB.cell (p := ⟨g, m * 2, none⟩) hg).trans a3
          have HM : Hid ((kAt ss (m + 1 - 1)).1 = ss[m].1) := by show (kAt ss (m + 1 - 1)).1 = _; rw [Nat.add_sub_cancel, kAt_get ss m (by omega)]
          clear a3
          generalize ss[m].1 = z at c3 HM
          have c4 := cell_since c3 (one_below wr (sb x (l : Int)))
          by_cases hz : z < x
          · have HF : Hid (seatsTo ss (m + 1 + 1) = true) := by show seatsTo ss (m + 1 + 1) = true; rw [seatsTo_succ, HP.out, HS.out, h1, h2, ht, HM.out]; simp [hz]
            go_wp2_with fail
            refine (isMember_any _ _).mono ?_
            rintro e w' ⟨rfl, rfl⟩
            rw [h1]
            go_wp2_with fail
            refine (isLeaf_any _ _).mono ?_
            rintro e w' ⟨rfl, rfl⟩
            rw [h2]
            go_wp2
            go_quiet (fail)
            go_wp2
            go_roundw
            case rel => exact ⟨m + 1 + 1, by omega, by go_num, HF.out, HT1.out, below_drewN2 HBs.out _, by simp; omega⟩
            case measure => simp [intOf]; omega
          · have HF : Hid (seatsTo ss n = false) := seatsTo_false (m := m + 1) (by rw [HS.out, HM.out]; simp [hz]) hlt
            have hz' : x ≤ z := by omega
            go_wp2_with fail
            refine (isMember_any _ _).mono ?_
            rintro e w' ⟨rfl, rfl⟩
            rw [h1]
            go_wp2_with fail
            refine (isLeaf_any _ _).mono ?_
            rintro e w' ⟨rfl, rfl⟩
            rw [h2]
            go_wp2
            go_quiet (fail)
            go_wp2
            go_ret
            exact ⟨by rw [HV.out, HF.out]; rfl, below_drewN2 hB1 _⟩
      · have : k = n := by omega
        subst this
        go_wp2
        go_ret
        exact ⟨by rw [HV.out, HP.out]; rfl, hB⟩
  · have HV : Hid (seatsB ss = false) := by show seatsB ss = _; simp [seatsB, hl]
    unfold maxLen at hm
    generalize ss.length = n at *
    go_enter Try.func43, Try.ntmps43
    go_wp2
    go_ret
    exact ⟨by rw [HV.out]; rfl, Below.refl _ _⟩
end Go.Proofs.Ytplinjepeahahaa
