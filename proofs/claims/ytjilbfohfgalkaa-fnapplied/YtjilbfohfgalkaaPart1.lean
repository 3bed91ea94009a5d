/- seatsOk of the program: at most eight seats by rising member, with unlike leaves. -/
import Derived.Test.YtjilbfohfgalkaaPart0
import Derived.OpenShut
import Derived.BigRegion
import Derived.RegionTactic
import Derived.ChangeAlike
import Derived.Test.YtjilbfohfgalkaaRows
import Derived.WalkKit
import Derived.WalkSpells
import Derived.WalkLawsBesides
import Derived.Deep.QuietTactic
import Derived.BigQuiet
import Derived.RangeFuncNested
import Derived.RangeFuncBound
import Derived.RangeFuncCalls
import Derived.RangeFuncLeaves
import Derived.RangeFuncBox
import Derived.Shelf.Abstract
import Derived.Shelf.RegionOpen
import Derived.OwnWalkIn
import Derived.TacticsInMore
import Derived.LoopNIn
import Derived.LoopIn
namespace Go.Proofs.Ytjilbfohfgalkaa
open Go.RowKit

/-- The array of taken leaves when m seats have been looked at. -/
def Taken (T : Nat) (ss : List (Int × Int)) (m : Nat) (W : World) : Prop := ∀ l : Nat, l < 16 → W.cell? ⟨T, l, none⟩ = some (.bool (takenB ss m (l : Int))) ∧ W.frozen? ⟨T, l, none⟩ = false
theorem Taken.later {T : Nat} {ss : List (Int × Int)} {m : Nat} {W W' : World} (h : Taken T ss m W) (hb : Below W.heap.size W W') (hT : T < W.heap.size) : Taken T ss m W' := fun l hl =>
  ⟨(hb.cell (p := ⟨T, l, none⟩) hT).trans (h l hl).1, (hb.frozen (p := ⟨T, l, none⟩) hT).trans (h l hl).2⟩
theorem Taken.set {T : Nat} {ss : List (Int × Int)} {m n : Nat} {W : World} (h : Taken T ss m W) (hn : n < 16) (hm : (kAt ss m).2 = (n : Int)) : Taken T ss (m + 1) (W.setCell ⟨T, n, none⟩ (.bool true)) := fun l hl => by
  refine ⟨?_, by rw [World.frozen?_setCell]; exact (h l hl).2⟩
  rw [takenB_succ, hm]
  by_cases e : l = n
  · subst e
    exact (World.cell?_setCell_same _ _ _ (h l hl).1).trans (by simp)
  · refine (World.cell?_setCell_other _ _ _ _ (fun e' => e (by injection e' with _ h2; exact h2.symm))).trans ((h l hl).1.trans ?_)
    have : decide ((n : Int) = (l : Int)) = false := decide_eq_false (by omega)
    rw [this, Bool.or_false]
theorem below_drewN2 {n : Nat} {w W : World} (h : Below n w W) (k : Nat) : Below n w (W.drewN k) := ⟨h.os, h.tape, h.output, h.size, h.block⟩

set_option maxHeartbeats 2000000 in
theorem seatsOk_any {B : Nat} {v : Value} {ss : List (Int × Int)} {w : World} (h : Seats B v ss w) :
    Calls Try.prog 61 #[v] w fun e w' => e = .returned (.bool (seatsB ss)) ∧ Below w.heap.size w w' := by
  obtain ⟨a, c, rfl, hm, hrow⟩ := h.row
  clear h
  by_cases hl : ss.length ≤ 8
  · have HV : Hid (seatsB ss = seatsTo ss ss.length) := by show seatsB ss = _; simp [seatsB, hl]
    have HR : Hid (KRow a ss w) := hrow
    clear hrow hm
    have HT0 : Hid (Taken w.heap.size ss 0 (w.alloc (.cells #[.bool false, .bool false, .bool false, .bool false, .bool false, .bool false, .bool false, .bool false, .bool false, .bool false, .bool false, .bool false, .bool false, .bool false, .bool false, .bool false] 115))) := fun l hl => by
      have : l = 0 ∨ l = 1 ∨ l = 2 ∨ l = 3 ∨ l = 4 ∨ l = 5 ∨ l = 6 ∨ l = 7 ∨ l = 8 ∨ l = 9 ∨ l = 10 ∨ l = 11 ∨ l = 12 ∨ l = 13 ∨ l = 14 ∨ l = 15 := by omega
      rcases this with e | e | e | e | e | e | e | e | e | e | e | e | e | e | e | e <;> subst e <;> simp [takenB]
    have hB0 := one_below w (.cells #[.bool false, .bool false, .bool false, .bool false, .bool false, .bool false, .bool false, .bool false, .bool false, .bool false, .bool false, .bool false, .bool false, .bool false, .bool false, .bool false] 115)
    have hT0 : w.heap.size < (w.alloc (.cells #[.bool false, .bool false, .bool false, .bool false, .bool false, .bool false, .bool false, .bool false, .bool false, .bool false, .bool false, .bool false, .bool false, .bool false, .bool false, .bool false] 115)).heap.size := by simp
    generalize hn : ss.length = n at hl HV ⊢
    go_enter Try.func61, Try.ntmps61
    go_wp2
    generalize w.alloc (.cells #[.bool false, .bool false, .bool false, .bool false, .bool false, .bool false, .bool false, .bool false, .bool false, .bool false, .bool false, .bool false, .bool false, .bool false, .bool false, .bool false] 115) = w1 at HT0 hB0 hT0 ⊢
    go_loopw [11] (fun i wr => ∃ k : Nat, k ≤ n ∧ i = .int .i64 (k : Int) ∧ Hid (seatsTo ss k = true) ∧ Hid (Taken w.heap.size ss k wr) ∧ Below w.heap.size w wr ∧ w.heap.size < wr.heap.size) (fun i _ => n - (intOf i).toNat)
    case atStart => exact ⟨0, by omega, rfl, rfl, HT0, hB0, hT0⟩
    case round =>
      obtain ⟨k, hk, rfl, HP, HT, hB, hTl⟩ := hrel
      clear HT0 hB0 hT0
      by_cases hlt : k < n
      · have hlk : k < ss.length := by omega
        obtain ⟨g, ha, hg, hseg⟩ : ∃ g, a = some ⟨g, 0, none⟩ ∧ g < w.heap.size ∧ KSeg g 0 ss w := by
          rcases HR.out with e | e
          · rw [e] at hlk; simp at hlk
          · exact e
        subst ha
        obtain ⟨a1, a2⟩ := hseg k hlk
        simp only [Nat.zero_add] at a1 a2
        have c1 : wr.cell? ⟨g, k * 2, none⟩ = some (.int .i64 ss[k].1) := (hB.cell (p := ⟨g, k * 2, none⟩) hg).trans a1
        have c2 : wr.cell? ⟨g, k * 2 + 1, none⟩ = some (.int .i64 ss[k].2) := (hB.cell (p := ⟨g, k * 2 + 1, none⟩) hg).trans a2
        clear a1 a2
        have HK : Hid (kAt ss k = ss[k]) := kAt_get ss k hlk
        obtain ⟨x, y, hxy⟩ : ∃ x y, ss[k] = (x, y) := ⟨_, _, rfl⟩
        rw [hxy] at c1 c2 HK
        clear hxy
        have HS : Hid (seatAt ss k = (decide (1 ≤ x ∧ x ≤ 20) && (decide (8 ≤ y ∧ y ≤ 15) && ((decide (k = 0) || decide ((kAt ss (k - 1)).1 < x)) && !takenB ss k y)))) := by
          show seatAt ss k = _
          unfold seatAt
          rw [HK.out]
        have HKS : Hid (KSeg g 0 ss w) := hseg
        clear hseg
        have hB1 : Below w.heap.size w (wr.alloc (sb x y)) := hB.alloc hB.size _
        cases h1 : decide (1 ≤ x ∧ x ≤ 20) with
        | false =>
          have HF : Hid (seatsTo ss n = false) := seatsTo_false (m := k) (by rw [HS.out, h1]; rfl) hlt
          go_wp2_with fail
          refine (isMember_any _ _).mono ?_
          rintro e w' ⟨rfl, rfl⟩
          rw [h1]
          go_wp2
          go_ret
          exact ⟨by rw [HV.out, HF.out]; rfl, hB1⟩
        | true =>
        cases h2 : decide (8 ≤ y ∧ y ≤ 15) with
        | false =>
          have HF : Hid (seatsTo ss n = false) := seatsTo_false (m := k) (by rw [HS.out, h2]; simp) hlt
          go_wp2_with fail
          refine (isMember_any _ _).mono ?_
          rintro e w' ⟨rfl, rfl⟩
          rw [h1]
          go_wp2_with fail
          refine (isLeaf_any _ _).mono ?_
          rintro e w' ⟨rfl, rfl⟩
          rw [h2]
          go_wp2
          go_ret
          exact ⟨by rw [HV.out, HF.out]; rfl, hB1⟩
        | true =>
        have hy := of_decide_eq_true h2
        obtain ⟨l, rfl⟩ : ∃ l : Nat, y = (l : Int) := ⟨y.toNat, by omega⟩
        have hl16 : l < 16 := by omega
        obtain ⟨t1, t2⟩ := HT.out l hl16
        have tc := cell_since t1 (one_below wr (sb x (l : Int)))
        have tf : (wr.alloc (sb x (l : Int))).frozen? ⟨w.heap.size, l, none⟩ = false := ((one_below wr (sb x (l : Int))).frozen (p := ⟨w.heap.size, l, none⟩) hTl).trans t2
        clear t1 t2
        cases ht : takenB ss k (l : Int) with
        | true =>
          rw [ht] at tc
          have HF : Hid (seatsTo ss n = false) := seatsTo_false (m := k) (by rw [HS.out, ht]; simp) hlt
          go_wp2_with fail
          refine (isMember_any _ _).mono ?_
          rintro e w' ⟨rfl, rfl⟩
          rw [h1]
          go_wp2_with fail
          refine (isLeaf_any _ _).mono ?_
          rintro e w' ⟨rfl, rfl⟩
          rw [h2]
          go_wp2
          go_ret
          exact ⟨by rw [HV.out, HF.out]; rfl, hB1⟩
        | false =>
        rw [ht] at tc
        have HT1 : Hid (Taken w.heap.size ss (k + 1) ((wr.alloc (sb x (l : Int))).setCell ⟨w.heap.size, l, none⟩ (.bool true))) := (HT.out.later (one_below _ _) hTl).set hl16 (by rw [HK.out])
        have HBs : Hid (Below w.heap.size w ((wr.alloc (sb x (l : Int))).setCell ⟨w.heap.size, l, none⟩ (.bool true))) := hB1.setCell (by simp) _
        by_cases hk0 : k = 0
        · subst hk0
          have HF : Hid (seatsTo ss 1 = true) := by show seatsTo ss 1 = true; rw [seatsTo_succ, HP.out, HS.out, h1, h2, ht]; rfl
          go_wp2_with fail
          refine (isMember_any _ _).mono ?_
          rintro e w' ⟨rfl, rfl⟩
          rw [h1]
          go_wp2_with fail
          refine (isLeaf_any _ _).mono ?_
          rintro e w' ⟨rfl, rfl⟩
          rw [h2]
          go_wp2
          go_quiet (fail)
          go_wp2
          go_roundw
          case rel => exact ⟨1, by omega, by go_num, HF.out, HT1.out, below_drewN2 HBs.out _, by simp; omega⟩
          case measure => simp [intOf]; omega
        · obtain ⟨m, rfl⟩ : ∃ m, k = m + 1 := ⟨k - 1, by omega⟩
          have a3 := (HKS.out m (by omega)).1
          simp only [Nat.zero_add] at a3
          have c3 : wr.cell? ⟨g, m * 2, none⟩ = some (.int .i64 ss[m].1) := (hB.cell (p := ⟨g, m * 2, none⟩) hg).trans a3
          have HM : Hid ((kAt ss (m + 1 - 1)).1 = ss[m].1) := by show (kAt ss (m + 1 - 1)).1 = _; rw [Nat.add_sub_cancel, kAt_get ss m (by omega)]
          clear a3
          generalize ss[m].1 = z at c3 HM
          have c4 := cell_since c3 (one_below wr (sb x (l : Int)))
          by_cases hz : z < x
          · have HF : Hid (seatsTo ss (m + 1 + 1) = true) := by show seatsTo ss (m + 1 + 1) = true; rw [seatsTo_succ, HP.out, HS.out, h1, h2, ht, HM.out]; simp [hz]
            go_wp2_with fail
            refine (isMember_any _ _).mono ?_
            rintro e w' ⟨rfl, rfl⟩
            rw [h1]
            go_wp2_with fail
            refine (isLeaf_any _ _).mono ?_
            rintro e w' ⟨rfl, rfl⟩
            rw [h2]
            go_wp2
            go_quiet (fail)
            go_wp2
            go_roundw
            case rel => exact ⟨m + 1 + 1, by omega, by go_num, HF.out, HT1.out, below_drewN2 HBs.out _, by simp; omega⟩
            case measure => simp [intOf]; omega
          · have HF : Hid (seatsTo ss n = false) := seatsTo_false (m := m + 1) (by rw [HS.out, HM.out]; simp [hz]) hlt
            have hz' : x ≤ z := by omega
            go_wp2_with fail
            refine (isMember_any _ _).mono ?_
            rintro e w' ⟨rfl, rfl⟩
            rw [h1]
            go_wp2_with fail
            refine (isLeaf_any _ _).mono ?_
            rintro e w' ⟨rfl, rfl⟩
            rw [h2]
            go_wp2
            go_quiet (fail)
            go_wp2
            go_ret
            exact ⟨by rw [HV.out, HF.out]; rfl, below_drewN2 hB1 _⟩
      · have : k = n := by omega
        subst this
        go_wp2
        go_ret
        exact ⟨by rw [HV.out, HP.out]; rfl, hB⟩
  · have HV : Hid (seatsB ss = false) := by show seatsB ss = _; simp [seatsB, hl]
    unfold maxLen at hm
    generalize ss.length = n at *
    go_enter Try.func61, Try.ntmps61
    go_wp2
    go_ret
    exact ⟨by rw [HV.out]; rfl, Below.refl _ _⟩
end Go.Proofs.Ytjilbfohfgalkaa
/- Structs of three cells in memory: what is read there, and what a store makes of them. -/
namespace Go.Proofs.Ytjilbfohfgalkaa
open Go.RowKit

theorem box3 {R : Nat} {W : World} {u v x : Value} {t : TypeId} (h : W.heap[R]? = some (.cells #[u, v, x] t)) :
    (W.cell? ⟨R, 0, none⟩ = some u ∧ W.cell? ⟨R, 1, none⟩ = some v ∧ W.cell? ⟨R, 2, none⟩ = some x) ∧ W.frozen? ⟨R, 0, none⟩ = false ∧ W.frozen? ⟨R, 1, none⟩ = false ∧ W.frozen? ⟨R, 2, none⟩ = false := by
  simp [World.cell?, World.frozen?, h]
theorem box3_set0 {R : Nat} {W : World} {u v x : Value} {t : TypeId} (h : W.heap[R]? = some (.cells #[u, v, x] t)) (y : Value) : (W.setCell ⟨R, 0, none⟩ y).heap[R]? = some (.cells #[y, v, x] t) := by
  simp [World.setCell, Array.getElem?_modify, h]
theorem box3_set1 {R : Nat} {W : World} {u v x : Value} {t : TypeId} (h : W.heap[R]? = some (.cells #[u, v, x] t)) (y : Value) : (W.setCell ⟨R, 1, none⟩ y).heap[R]? = some (.cells #[u, y, x] t) := by
  simp [World.setCell, Array.getElem?_modify, h]
theorem box3_set2 {R : Nat} {W : World} {u v x : Value} {t : TypeId} (h : W.heap[R]? = some (.cells #[u, v, x] t)) (y : Value) : (W.setCell ⟨R, 2, none⟩ y).heap[R]? = some (.cells #[u, v, y] t) := by
  simp [World.setCell, Array.getElem?_modify, h]
theorem grown_set (W : World) (b o : Nat) (v : Value) : W.grownBy (W.setCell ⟨b, o, none⟩ v) (some b) :=
  ⟨rfl, rfl, rfl, by simp, fun k _ hne => by simp [World.setCell, Array.getElem?_modify, show b ≠ k from fun e => hne (by rw [e])]⟩
theorem blk' {W W' : World} {R k : Nat} {o : Obj} (hg : W.grownBy W' (some R)) (h : W.heap[k]? = some o) (hne : k ≠ R) : W'.heap[k]? = some o :=
  (hg.block k (Array.getElem?_eq_some_iff.1 h).1 (fun e => hne (by cases e; rfl))).trans h
/-- A store into memory of the call's own turns nothing below. -/
theorem below_set {n : Nat} {w W : World} (h : Below n w W) (b o : Nat) (v : Value) (hb : n ≤ b) (hn : n ≤ W.heap.size) : Below n w (W.setCell ⟨b, o, none⟩ v) :=
  h.grown (grown_set W b o v) hn (fun k e => by cases e; exact hb)
end Go.Proofs.Ytjilbfohfgalkaa
/- ServerOk of the program and of the model. -/
namespace Go.Proofs.Ytjilbfohfgalkaa
open Go.RowKit

abbrev svv (ep : Int) (x y : Value) : Value := .agg #[.int .i64 ep, x, y]
abbrev svb (ep : Int) (x y : Value) : Obj := .cells #[.int .i64 ep, x, y] 43
theorem scell3 (w : World) (ep : Int) (x y : Value) : (w.alloc (svb ep x y)).cell? ⟨w.heap.size, 0, none⟩ = some (.int .i64 ep) ∧ (w.alloc (svb ep x y)).cell? ⟨w.heap.size, 1, none⟩ = some x ∧ (w.alloc (svb ep x y)).cell? ⟨w.heap.size, 2, none⟩ = some y := by simp
set_option maxHeartbeats 1000000 in
theorem serverOk_any {B C : Nat} {x y : Value} {vs : List Int} {ss : List (Int × Int)} {w : World} (ep : Int) (hx : Ints B x vs w) (hy : Seats C y ss w) :
    Calls Try.prog 34 #[svv ep x y] w fun e w' => e = .returned (.bool (serverB ep vs ss)) ∧ Below w.heap.size w w' := by
  have hB := one_below w (svb ep x y)
  obtain ⟨c0, c1, c2⟩ := scell3 w ep x y
  have hX := hx.since hB
  have hY := hy.since hB
  clear hx hy
  go_enter Try.func34, Try.ntmps34
  go_wp2_with fail
  generalize w.alloc (svb ep x y) = w1 at hB c0 c1 c2 hX hY ⊢
  refine (epochOk_any _ _).mono ?_
  rintro e w' ⟨rfl, rfl⟩
  cases h1 : decide (0 ≤ ep ∧ ep ≤ 1000000000) with
  | false =>
    go_wp2
    go_ret
    exact ⟨by show Ending.returned (.bool false) = _; simp [serverB, h1], hB⟩
  | true =>
  go_wp2_with fail
  refine (versOk_any hX).mono ?_
  rintro e w' ⟨rfl, rfl⟩
  cases h2 : versB vs with
  | false =>
    go_wp2
    go_ret
    exact ⟨by show Ending.returned (.bool false) = _; simp [serverB, h2], hB⟩
  | true =>
  go_wp2_with fail
  refine (seatsOk_any hY).mono ?_
  rintro e w2 ⟨rfl, b2⟩
  go_wp2
  go_ret
  exact ⟨by show Ending.returned (.bool (seatsB ss)) = _; simp [serverB, h1, h2], more hB b2⟩

/-- What is known in the middle of the seats' look. -/
theorem l1In_at {S : World → Prop} (n lo hi : Int) (s : SW S) :
    Calls Try.prog 50 #[.int .i64 n, .int .i64 lo, .int .i64 hi] s.w fun e w' => e = .returned (.bool (decide (lo ≤ n ∧ n ≤ hi))) ∧ w' = s.w := l1InK_any n lo hi s.w

set_option maxHeartbeats 4000000 in
theorem specServerOk_any {B C : Nat} {x y : Value} {vs : List Int} {ss : List (Int × Int)} {w : World} (ep : Int) (hx : Ints B x vs w) (hy : Seats C y ss w) :
    Calls Try.prog 30 #[svv ep x y] w fun e w' => e = .returned (.bool (serverB ep vs ss)) ∧ Below w.heap.size w w' := by
  obtain ⟨a, c, hv, hm, hri⟩ := (hx.since (one_below w (svb ep x y))).row
  obtain ⟨a', c', hv', hm', hrk⟩ := (hy.since (one_below w (svb ep x y))).row
  subst hv hv'
  clear hx hy
  unfold maxLen at hm hm'
  have hB := one_below w (svb ep (.slice a vs.length c) (.slice a' ss.length c'))
  obtain ⟨c0, c1, c2⟩ := scell3 w ep (.slice a vs.length c) (.slice a' ss.length c')
  have HI : Hid (IRow a vs (w.alloc (svb ep (.slice a vs.length c) (.slice a' ss.length c')))) := hri
  have HS : Hid (KRow a' ss (w.alloc (svb ep (.slice a vs.length c) (.slice a' ss.length c')))) := hrk
  clear hri hrk
  cases h1 : decide (0 ≤ ep ∧ ep ≤ 1000000000) with
  | false =>
    go_enter Try.func30, Try.ntmps30
    go_wp2_with fail
    refine (l1InK_any _ _ _ _).mono ?_
    rintro e w' ⟨rfl, rfl⟩
    rw [h1]
    go_wp2
    go_ret
    exact ⟨by show Ending.returned (.bool false) = _; simp [serverB, h1], hB⟩
  | true =>
  by_cases hl : vs.length = 15
  case neg =>
    have hne : ((vs.length : Int) == 15) = false := by simp; omega
    go_enter Try.func30, Try.ntmps30
    go_wp2_with fail
    refine (l1InK_any _ _ _ _).mono ?_
    rintro e w' ⟨rfl, rfl⟩
    rw [h1]
    go_wp2
    go_ret
    exact ⟨by show Ending.returned (.bool false) = _; simp [serverB, versB, hl], hB⟩
  case pos =>
  by_cases hl8 : ss.length ≤ 8
  case neg =>
    have hne : ((vs.length : Int) == 15) = true := by rw [hl]; rfl
    go_enter Try.func30, Try.ntmps30
    go_wp2_with fail
    refine (l1InK_any _ _ _ _).mono ?_
    rintro e w' ⟨rfl, rfl⟩
    rw [h1]
    rw [hl] at hB
    go_wp2
    go_ret
    exact ⟨by show Ending.returned (.bool false) = _; simp [serverB, seatsB, hl8], hB⟩
  case pos =>
  have hne : ((vs.length : Int) == 15) = true := by rw [hl]; rfl
  have HB : Hid (serverB ep vs ss = (versTo vs 15 && seatsTo ss ss.length)) := by show serverB ep vs ss = _; simp [serverB, versB, seatsB, h1, hl, hl8]
  rw [hl] at hne hB c0 c1 c2 HI HS ⊢
  obtain ⟨g, ha, hg, hseg⟩ : ∃ g, a = some ⟨g, 0, none⟩ ∧ g < (w.alloc (svb ep (.slice a 15 c) (.slice a' ss.length c'))).heap.size ∧ ISeg g 0 vs (w.alloc (svb ep (.slice a 15 c) (.slice a' ss.length c'))) := by
    rcases HI.out with e | e
    · rw [e] at hl; simp at hl
    · exact e
  subst ha
  have HG : Hid (ISeg g 0 vs (w.alloc (svb ep (.slice (some ⟨g, 0, none⟩) 15 c) (.slice a' ss.length c')))) := hseg
  clear hseg HI
  generalize hn : ss.length = n at *
  have h8 : decide ((8 : Int) < (n : Int)) = false := decide_eq_false (by omega)
  go_enter Try.func30, Try.ntmps30
  go_wp2_with fail
  generalize w.alloc (svb ep (.slice (some ⟨g, 0, none⟩) 15 c) (.slice a' n c')) = w1 at hB c0 c1 c2 hg HG HS ⊢
  refine (l1InK_any _ _ _ _).mono ?_
  rintro e w' ⟨rfl, hww⟩
  subst w'
  rw [h1]
  clear h1
  go_wp2
  go_loopw [3] (fun i wr => ∃ k : Nat, k ≤ 15 ∧ i = .int .i64 (k : Int) ∧ Hid (versTo vs k = true) ∧ wr = w1) (fun i _ => 15 - (intOf i).toNat)
  case atStart => exact ⟨0, by omega, rfl, rfl, rfl⟩
  case round =>
    obtain ⟨k, hk, rfl, HP, hww⟩ := hrel
    subst hww
    by_cases hlt : k < 15
    · have hlk : k < vs.length := by omega
      have d1 := HG.out k hlk
      rw [Nat.zero_add] at d1
      have HA : Hid (verAt vs k = decide (1 ≤ vs[k] ∧ vs[k] ≤ 1000000000)) := by show verAt vs k = _; unfold verAt; rw [vAt_get vs k hlk]
      generalize vs[k] = z at d1 HA
      cases hz : decide (1 ≤ z ∧ z ≤ 1000000000) with
      | true =>
        have HF : Hid (versTo vs (k + 1) = true) := by show versTo vs (k + 1) = true; rw [versTo_succ, HP.out, HA.out, hz]; rfl
        go_wp2_with fail
        refine (l1InK_any _ _ _ _).mono ?_
        rintro e w' ⟨rfl, hww⟩
        subst w'
        rw [hz]
        go_wp2
        go_roundw
        case rel => exact ⟨k + 1, by omega, by go_num, HF.out, by first | trivial | rfl⟩
        case measure => simp [intOf]; omega
      | false =>
        have HF : Hid (versTo vs 15 = false) := versTo_false (m := k) (by rw [HA.out, hz]) hlt
        go_wp2_with fail
        refine (l1InK_any _ _ _ _).mono ?_
        rintro e w' ⟨rfl, hww⟩
        subst w'
        rw [hz]
        go_wp2
        go_ret
        exact ⟨by show Ending.returned (.bool false) = _; rw [HB.out, HF.out]; rfl, hB⟩
    · have HV : Hid (serverB ep vs ss = seatsTo ss n) := by
        show serverB ep vs ss = _
        have e : k = 15 := by omega
        have := HP.out
        rw [e] at this
        rw [HB.out, this]; simp
      clear HB HP
      go_wp2
      go_loopw [4] (fun i wq => ∃ k : Nat, k ≤ n ∧ i = .int .i64 (k : Int) ∧ Hid (seatsTo ss k = true) ∧ Below wr.heap.size wr wq) (fun i _ => n - (intOf i).toNat)
      case atStart => exact ⟨0, by omega, rfl, rfl, Below.refl _ _⟩
      case round =>
        obtain ⟨k, hk, rfl, HP, hQ⟩ := hrel
        rename World => wq
        have e2 := cell_since c2 hQ
        by_cases hlt : k < n
        · have hlk : k < ss.length := by omega
          obtain ⟨g', ha, hg', hseg⟩ : ∃ g', a' = some ⟨g', 0, none⟩ ∧ g' < wr.heap.size ∧ KSeg g' 0 ss wr := by
            rcases HS.out with e | e
            · rw [e] at hlk; simp at hlk
            · exact e
          subst ha
          obtain ⟨a1, a2⟩ := hseg k hlk
          simp only [Nat.zero_add] at a1 a2
          have m1 := cell_since a1 hQ
          have m2 := cell_since a2 hQ
          have HK : Hid (kAt ss k = ss[k]) := kAt_get ss k hlk
          obtain ⟨x, y, hxy⟩ : ∃ x y, ss[k] = (x, y) := ⟨_, _, rfl⟩
          rw [hxy] at m1 m2 HK
          clear hxy a1 a2
          have HSA : Hid (seatAt ss k = (decide (1 ≤ x ∧ x ≤ 20) && (decide (8 ≤ y ∧ y ≤ 15) && ((decide (k = 0) || decide ((kAt ss (k - 1)).1 < x)) && !takenB ss k y)))) := by
            show seatAt ss k = _
            unfold seatAt
            rw [HK.out]
          have HKS : Hid (KSeg g' 0 ss wr) := hseg
          clear hseg
          have b0 : (wq.alloc (sb x y)).cell? ⟨wq.heap.size, 0, none⟩ = some (.int .i64 x) := by simp
          have b1 : (wq.alloc (sb x y)).cell? ⟨wq.heap.size, 1, none⟩ = some (.int .i64 y) := by simp
          have f2 := cell_since e2 (one_below wq (sb x y))
          have hQa : Below wr.heap.size wr (wq.alloc (sb x y)) := hQ.alloc hQ.size _
          cases h1 : decide (1 ≤ x ∧ x ≤ 20) with
          | false =>
            have HF : Hid (seatsTo ss n = false) := seatsTo_false (m := k) (by rw [HSA.out, h1]; simp) hlt
            go_wp2
            have hS0 : (Cs4 wr ⟨wq.heap.size, 0, none⟩ (.int .i64 x) ⟨wq.heap.size, 1, none⟩ (.int .i64 y) ⟨w.heap.size, 2, none⟩ (.slice (some ⟨g', 0, none⟩) n c') ⟨wq.heap.size, 0, none⟩ (.int .i64 x)) (wq.alloc (sb x y)).drew := ⟨b0, b1, f2, b0, hQa.drew⟩
            have hSN := SW.some hS0
            have hS1 := fun s : SW (Cs4 wr ⟨wq.heap.size, 0, none⟩ (.int .i64 x) ⟨wq.heap.size, 1, none⟩ (.int .i64 y) ⟨w.heap.size, 2, none⟩ (.slice (some ⟨g', 0, none⟩) n c') ⟨wq.heap.size, 0, none⟩ (.int .i64 x)) => s.is.1
            have hS2 := fun s : SW (Cs4 wr ⟨wq.heap.size, 0, none⟩ (.int .i64 x) ⟨wq.heap.size, 1, none⟩ (.int .i64 y) ⟨w.heap.size, 2, none⟩ (.slice (some ⟨g', 0, none⟩) n c') ⟨wq.heap.size, 0, none⟩ (.int .i64 x)) => s.is.2.1
            have hS3 := fun s : SW (Cs4 wr ⟨wq.heap.size, 0, none⟩ (.int .i64 x) ⟨wq.heap.size, 1, none⟩ (.int .i64 y) ⟨w.heap.size, 2, none⟩ (.slice (some ⟨g', 0, none⟩) n c') ⟨wq.heap.size, 0, none⟩ (.int .i64 x)) => s.is.2.2.1
            have hS4 := fun s : SW (Cs4 wr ⟨wq.heap.size, 0, none⟩ (.int .i64 x) ⟨wq.heap.size, 1, none⟩ (.int .i64 y) ⟨w.heap.size, 2, none⟩ (.slice (some ⟨g', 0, none⟩) n c') ⟨wq.heap.size, 0, none⟩ (.int .i64 x)) => s.is.2.2.2.1
            refine wp_region_S (Cs4 wr ⟨wq.heap.size, 0, none⟩ (.int .i64 x) ⟨wq.heap.size, 1, none⟩ (.int .i64 y) ⟨w.heap.size, 2, none⟩ (.slice (some ⟨g', 0, none⟩) n c') ⟨wq.heap.size, 0, none⟩ (.int .i64 x)) (by kernel_rfl) (by kernel_rfl) hS0 ?_
            repeat (go_big_quiet_step ((rename_i s0; go_at_call 50; refine (l1In_at _ _ _ s0).mono ?_; rintro e w' ⟨rfl, rfl⟩; rw [h1]; exact ⟨rfl, ⟨s0, rfl⟩⟩)))
            refine wpQuiet_nil ?_
            rintro _ ⟨s, rfl⟩
            obtain ⟨q1, q2, q3, q4, hQf⟩ := s.is
            clear hS0 hSN hS1 hS2 hS3 hS4 b0 b1 f2 hQa
            generalize s.w = wz at *
            go_wp2
            go_ret
            exact ⟨by show Ending.returned (.bool false) = _; rw [HV.out, HF.out], more hB hQf⟩

          | true =>
            by_cases hk0 : k = 0
            · subst hk0
              cases h2 : decide (8 ≤ y ∧ y ≤ 15) with
              | false =>
                have HF : Hid (seatsTo ss n = false) := seatsTo_false (m := 0) (by rw [HSA.out, h2]; simp) hlt
                go_wp2
                have hS0 : (Cs4 wr ⟨wq.heap.size, 0, none⟩ (.int .i64 x) ⟨wq.heap.size, 1, none⟩ (.int .i64 y) ⟨w.heap.size, 2, none⟩ (.slice (some ⟨g', 0, none⟩) n c') ⟨wq.heap.size, 0, none⟩ (.int .i64 x)) (wq.alloc (sb x y)).drew := ⟨b0, b1, f2, b0, hQa.drew⟩
                have hSN := SW.some hS0
                have hS1 := fun s : SW (Cs4 wr ⟨wq.heap.size, 0, none⟩ (.int .i64 x) ⟨wq.heap.size, 1, none⟩ (.int .i64 y) ⟨w.heap.size, 2, none⟩ (.slice (some ⟨g', 0, none⟩) n c') ⟨wq.heap.size, 0, none⟩ (.int .i64 x)) => s.is.1
                have hS2 := fun s : SW (Cs4 wr ⟨wq.heap.size, 0, none⟩ (.int .i64 x) ⟨wq.heap.size, 1, none⟩ (.int .i64 y) ⟨w.heap.size, 2, none⟩ (.slice (some ⟨g', 0, none⟩) n c') ⟨wq.heap.size, 0, none⟩ (.int .i64 x)) => s.is.2.1
                have hS3 := fun s : SW (Cs4 wr ⟨wq.heap.size, 0, none⟩ (.int .i64 x) ⟨wq.heap.size, 1, none⟩ (.int .i64 y) ⟨w.heap.size, 2, none⟩ (.slice (some ⟨g', 0, none⟩) n c') ⟨wq.heap.size, 0, none⟩ (.int .i64 x)) => s.is.2.2.1
                have hS4 := fun s : SW (Cs4 wr ⟨wq.heap.size, 0, none⟩ (.int .i64 x) ⟨wq.heap.size, 1, none⟩ (.int .i64 y) ⟨w.heap.size, 2, none⟩ (.slice (some ⟨g', 0, none⟩) n c') ⟨wq.heap.size, 0, none⟩ (.int .i64 x)) => s.is.2.2.2.1
                refine wp_region_S (Cs4 wr ⟨wq.heap.size, 0, none⟩ (.int .i64 x) ⟨wq.heap.size, 1, none⟩ (.int .i64 y) ⟨w.heap.size, 2, none⟩ (.slice (some ⟨g', 0, none⟩) n c') ⟨wq.heap.size, 0, none⟩ (.int .i64 x)) (by kernel_rfl) (by kernel_rfl) hS0 ?_
                repeat (go_big_quiet_step ((rename_i s0; go_at_call 50; refine (l1In_at _ _ _ s0).mono ?_; rintro e w' ⟨rfl, rfl⟩; (first | rw [h1] | rw [h2]); exact ⟨rfl, ⟨s0, rfl⟩⟩)))
                refine wpQuiet_nil ?_
                rintro _ ⟨s, rfl⟩
                obtain ⟨q1, q2, q3, q4, hQf⟩ := s.is
                clear hS0 hSN hS1 hS2 hS3 hS4 b0 b1 f2 hQa
                generalize s.w = wz at *
                go_wp2
                go_ret
                exact ⟨by show Ending.returned (.bool false) = _; rw [HV.out, HF.out], more hB hQf⟩

              | true =>
                go_wp2
                have hS0 : (Cs4 wr ⟨wq.heap.size, 0, none⟩ (.int .i64 x) ⟨wq.heap.size, 1, none⟩ (.int .i64 y) ⟨w.heap.size, 2, none⟩ (.slice (some ⟨g', 0, none⟩) n c') ⟨wq.heap.size, 0, none⟩ (.int .i64 x)) (wq.alloc (sb x y)).drew := ⟨b0, b1, f2, b0, hQa.drew⟩
                have hSN := SW.some hS0
                have hS1 := fun s : SW (Cs4 wr ⟨wq.heap.size, 0, none⟩ (.int .i64 x) ⟨wq.heap.size, 1, none⟩ (.int .i64 y) ⟨w.heap.size, 2, none⟩ (.slice (some ⟨g', 0, none⟩) n c') ⟨wq.heap.size, 0, none⟩ (.int .i64 x)) => s.is.1
                have hS2 := fun s : SW (Cs4 wr ⟨wq.heap.size, 0, none⟩ (.int .i64 x) ⟨wq.heap.size, 1, none⟩ (.int .i64 y) ⟨w.heap.size, 2, none⟩ (.slice (some ⟨g', 0, none⟩) n c') ⟨wq.heap.size, 0, none⟩ (.int .i64 x)) => s.is.2.1
                have hS3 := fun s : SW (Cs4 wr ⟨wq.heap.size, 0, none⟩ (.int .i64 x) ⟨wq.heap.size, 1, none⟩ (.int .i64 y) ⟨w.heap.size, 2, none⟩ (.slice (some ⟨g', 0, none⟩) n c') ⟨wq.heap.size, 0, none⟩ (.int .i64 x)) => s.is.2.2.1
                have hS4 := fun s : SW (Cs4 wr ⟨wq.heap.size, 0, none⟩ (.int .i64 x) ⟨wq.heap.size, 1, none⟩ (.int .i64 y) ⟨w.heap.size, 2, none⟩ (.slice (some ⟨g', 0, none⟩) n c') ⟨wq.heap.size, 0, none⟩ (.int .i64 x)) => s.is.2.2.2.1
                refine wp_region_S (Cs4 wr ⟨wq.heap.size, 0, none⟩ (.int .i64 x) ⟨wq.heap.size, 1, none⟩ (.int .i64 y) ⟨w.heap.size, 2, none⟩ (.slice (some ⟨g', 0, none⟩) n c') ⟨wq.heap.size, 0, none⟩ (.int .i64 x)) (by kernel_rfl) (by kernel_rfl) hS0 ?_
                repeat (go_big_quiet_step ((rename_i s0; go_at_call 50; refine (l1In_at _ _ _ s0).mono ?_; rintro e w' ⟨rfl, rfl⟩; (first | rw [h1] | rw [h2]); exact ⟨rfl, ⟨s0, rfl⟩⟩)))
                refine wpQuiet_nil ?_
                rintro _ ⟨s, rfl⟩
                obtain ⟨q1, q2, q3, q4, hQf⟩ := s.is
                clear hS0 hSN hS1 hS2 hS3 hS4 b0 b1 f2 hQa
                generalize s.w = wz at *
                have HQ : Hid (Below wr.heap.size wr wz) := hQf
                have hsl : wz.cell? ⟨w.heap.size, 2, none⟩ = some (.slice (some ⟨g', 0, none⟩) n c') := q3
                clear q1 q3 q4
                go_wp2
                have HF : Hid (seatsTo ss 1 = true) := by
                  show seatsTo ss (0 + 1) = true
                  rw [seatsTo_succ, HP.out, HSA.out, h1, h2]; rfl
                refine wp_loop_rounds 1 ?_
                rw [rounds_succ]
                go_wp2
                go_roundw
                case rel => exact ⟨1, by omega, by go_num, HF.out, HQ.out⟩
                case measure => simp [intOf]; omega
            · obtain ⟨m, rfl⟩ : ∃ m, k = m + 1 := ⟨k - 1, by omega⟩
              have a3 := (HKS.out m (by omega)).1
              simp only [Nat.zero_add] at a3
              have c3 := cell_since a3 hQ
              have HM : Hid ((kAt ss (m + 1 - 1)).1 = ss[m].1) := by show (kAt ss (m + 1 - 1)).1 = _; rw [Nat.add_sub_cancel, kAt_get ss m (by omega)]
              clear a3
              generalize ss[m].1 = z at c3 HM
              have f3 := cell_since c3 (one_below wq (sb x y))
              by_cases hz : z < x
              · have hz' : decide (x ≤ z) = false := decide_eq_false (by omega)
                cases h2 : decide (8 ≤ y ∧ y ≤ 15) with
                | false =>
                  have HF : Hid (seatsTo ss n = false) := seatsTo_false (m := m + 1) (by rw [HSA.out, h2]; simp) hlt
                  go_wp2
                  have hS0 : (Cs4 wr ⟨wq.heap.size, 0, none⟩ (.int .i64 x) ⟨wq.heap.size, 1, none⟩ (.int .i64 y) ⟨w.heap.size, 2, none⟩ (.slice (some ⟨g', 0, none⟩) n c') ⟨g', m * 2, none⟩ (.int .i64 z)) (wq.alloc (sb x y)).drew := ⟨b0, b1, f2, f3, hQa.drew⟩
                  have hSN := SW.some hS0
                  have hS1 := fun s : SW (Cs4 wr ⟨wq.heap.size, 0, none⟩ (.int .i64 x) ⟨wq.heap.size, 1, none⟩ (.int .i64 y) ⟨w.heap.size, 2, none⟩ (.slice (some ⟨g', 0, none⟩) n c') ⟨g', m * 2, none⟩ (.int .i64 z)) => s.is.1
                  have hS2 := fun s : SW (Cs4 wr ⟨wq.heap.size, 0, none⟩ (.int .i64 x) ⟨wq.heap.size, 1, none⟩ (.int .i64 y) ⟨w.heap.size, 2, none⟩ (.slice (some ⟨g', 0, none⟩) n c') ⟨g', m * 2, none⟩ (.int .i64 z)) => s.is.2.1
                  have hS3 := fun s : SW (Cs4 wr ⟨wq.heap.size, 0, none⟩ (.int .i64 x) ⟨wq.heap.size, 1, none⟩ (.int .i64 y) ⟨w.heap.size, 2, none⟩ (.slice (some ⟨g', 0, none⟩) n c') ⟨g', m * 2, none⟩ (.int .i64 z)) => s.is.2.2.1
                  have hS4 := fun s : SW (Cs4 wr ⟨wq.heap.size, 0, none⟩ (.int .i64 x) ⟨wq.heap.size, 1, none⟩ (.int .i64 y) ⟨w.heap.size, 2, none⟩ (.slice (some ⟨g', 0, none⟩) n c') ⟨g', m * 2, none⟩ (.int .i64 z)) => s.is.2.2.2.1
                  refine wp_region_S (Cs4 wr ⟨wq.heap.size, 0, none⟩ (.int .i64 x) ⟨wq.heap.size, 1, none⟩ (.int .i64 y) ⟨w.heap.size, 2, none⟩ (.slice (some ⟨g', 0, none⟩) n c') ⟨g', m * 2, none⟩ (.int .i64 z)) (by kernel_rfl) (by kernel_rfl) hS0 ?_
                  repeat (go_big_quiet_step ((rename_i s0; go_at_call 50; refine (l1In_at _ _ _ s0).mono ?_; rintro e w' ⟨rfl, rfl⟩; (first | rw [h1] | rw [h2]); exact ⟨rfl, ⟨s0, rfl⟩⟩)))
                  refine wpQuiet_nil ?_
                  rintro _ ⟨s, rfl⟩
                  obtain ⟨q1, q2, q3, q4, hQf⟩ := s.is
                  clear hS0 hSN hS1 hS2 hS3 hS4 b0 b1 f2 hQa
                  generalize s.w = wz at *
                  go_wp2
                  go_ret
                  exact ⟨by show Ending.returned (.bool false) = _; rw [HV.out, HF.out], more hB hQf⟩

                | true =>
                  go_wp2
                  have hS0 : (Cs4 wr ⟨wq.heap.size, 0, none⟩ (.int .i64 x) ⟨wq.heap.size, 1, none⟩ (.int .i64 y) ⟨w.heap.size, 2, none⟩ (.slice (some ⟨g', 0, none⟩) n c') ⟨g', m * 2, none⟩ (.int .i64 z)) (wq.alloc (sb x y)).drew := ⟨b0, b1, f2, f3, hQa.drew⟩
                  have hSN := SW.some hS0
                  have hS1 := fun s : SW (Cs4 wr ⟨wq.heap.size, 0, none⟩ (.int .i64 x) ⟨wq.heap.size, 1, none⟩ (.int .i64 y) ⟨w.heap.size, 2, none⟩ (.slice (some ⟨g', 0, none⟩) n c') ⟨g', m * 2, none⟩ (.int .i64 z)) => s.is.1
                  have hS2 := fun s : SW (Cs4 wr ⟨wq.heap.size, 0, none⟩ (.int .i64 x) ⟨wq.heap.size, 1, none⟩ (.int .i64 y) ⟨w.heap.size, 2, none⟩ (.slice (some ⟨g', 0, none⟩) n c') ⟨g', m * 2, none⟩ (.int .i64 z)) => s.is.2.1
                  have hS3 := fun s : SW (Cs4 wr ⟨wq.heap.size, 0, none⟩ (.int .i64 x) ⟨wq.heap.size, 1, none⟩ (.int .i64 y) ⟨w.heap.size, 2, none⟩ (.slice (some ⟨g', 0, none⟩) n c') ⟨g', m * 2, none⟩ (.int .i64 z)) => s.is.2.2.1
                  have hS4 := fun s : SW (Cs4 wr ⟨wq.heap.size, 0, none⟩ (.int .i64 x) ⟨wq.heap.size, 1, none⟩ (.int .i64 y) ⟨w.heap.size, 2, none⟩ (.slice (some ⟨g', 0, none⟩) n c') ⟨g', m * 2, none⟩ (.int .i64 z)) => s.is.2.2.2.1
                  refine wp_region_S (Cs4 wr ⟨wq.heap.size, 0, none⟩ (.int .i64 x) ⟨wq.heap.size, 1, none⟩ (.int .i64 y) ⟨w.heap.size, 2, none⟩ (.slice (some ⟨g', 0, none⟩) n c') ⟨g', m * 2, none⟩ (.int .i64 z)) (by kernel_rfl) (by kernel_rfl) hS0 ?_
                  repeat (go_big_quiet_step ((rename_i s0; go_at_call 50; refine (l1In_at _ _ _ s0).mono ?_; rintro e w' ⟨rfl, rfl⟩; (first | rw [h1] | rw [h2]); exact ⟨rfl, ⟨s0, rfl⟩⟩)))
                  refine wpQuiet_nil ?_
                  rintro _ ⟨s, rfl⟩
                  obtain ⟨q1, q2, q3, q4, hQf⟩ := s.is
                  clear hS0 hSN hS1 hS2 hS3 hS4 b0 b1 f2 hQa
                  generalize s.w = wz at *
                  have HQ : Hid (Below wr.heap.size wr wz) := hQf
                  have hsl : wz.cell? ⟨w.heap.size, 2, none⟩ = some (.slice (some ⟨g', 0, none⟩) n c') := q3
                  clear q1 q3 q4
                  go_wp2
                  go_loopw [6] (fun i wi => ∃ j : Nat, j ≤ (m + 1) ∧ i = .int .i64 (j : Int) ∧ Hid (takenB ss j y = false) ∧ ∃ q, wi = wz.drewN q) (fun i _ => (m + 1) - (intOf i).toNat)
                  case atStart => exact ⟨0, by omega, rfl, rfl, 0, rfl⟩
                  case round =>
                    obtain ⟨j, hj, rfl, HJ, q, rfl⟩ := hrel
                    by_cases hjk : j < (m + 1)
                    · have hjl : j < ss.length := by omega
                      have r2 := (HKS.out j hjl).2
                      simp only [Nat.zero_add] at r2
                      have u2 := cell_since r2 hQf
                      have HU : Hid ((kAt ss j).2 = ss[j].2) := by show (kAt ss j).2 = _; rw [kAt_get ss j hjl]
                      clear r2
                      generalize ss[j].2 = t at u2 HU
                      by_cases ht : t = y
                      · have ht' : (t == y) = true := by simpa using ht
                        have HF : Hid (seatsTo ss n = false) := seatsTo_false (m := (m + 1)) (by rw [HSA.out, takenB_true (HU.out.trans ht) hjk]; simp) hlt
                        subst ht
                        go_wp2
                        go_quiet (fail)
                        go_wp2
                        go_ret
                        exact ⟨by show Ending.returned (.bool false) = _; rw [HV.out, HF.out], below_drewN2 (below_drewN2 (more hB HQ.out) _) _⟩
                      · have ht' : (t == y) = false := by simpa using ht
                        have HF : Hid (takenB ss (j + 1) y = false) := by show takenB ss (j + 1) y = false; rw [takenB_succ, HJ.out, HU.out]; simp [ht]
                        go_wp2
                        go_quiet (fail)
                        go_wp2
                        go_roundw
                        case rel => exact ⟨j + 1, by omega, by go_num, HF.out, q + nq, by simp⟩
                        case measure => simp [intOf]; omega
                    · have hje : j = (m + 1) := by omega
                      have HF : Hid (seatsTo ss ((m + 1) + 1) = true) := by
                        show seatsTo ss ((m + 1) + 1) = true
                        have := HJ.out
                        rw [hje] at this
                        rw [seatsTo_succ, HP.out, HSA.out, HM.out, this, h1, h2]; simp [hz]
                      go_wp2
                      go_roundw
                      case rel => exact ⟨(m + 1) + 1, by omega, by go_num, HF.out, below_drewN2 HQ.out _⟩
                      case measure => simp [intOf]; omega

              · have hz' : x ≤ z := by omega
                have HF : Hid (seatsTo ss n = false) := seatsTo_false (m := m + 1) (by rw [HSA.out, HM.out]; simp [hz]) hlt
                go_wp2
                have hS0 : (Cs4 wr ⟨wq.heap.size, 0, none⟩ (.int .i64 x) ⟨wq.heap.size, 1, none⟩ (.int .i64 y) ⟨w.heap.size, 2, none⟩ (.slice (some ⟨g', 0, none⟩) n c') ⟨g', m * 2, none⟩ (.int .i64 z)) (wq.alloc (sb x y)).drew := ⟨b0, b1, f2, f3, hQa.drew⟩
                have hSN := SW.some hS0
                have hS1 := fun s : SW (Cs4 wr ⟨wq.heap.size, 0, none⟩ (.int .i64 x) ⟨wq.heap.size, 1, none⟩ (.int .i64 y) ⟨w.heap.size, 2, none⟩ (.slice (some ⟨g', 0, none⟩) n c') ⟨g', m * 2, none⟩ (.int .i64 z)) => s.is.1
                have hS2 := fun s : SW (Cs4 wr ⟨wq.heap.size, 0, none⟩ (.int .i64 x) ⟨wq.heap.size, 1, none⟩ (.int .i64 y) ⟨w.heap.size, 2, none⟩ (.slice (some ⟨g', 0, none⟩) n c') ⟨g', m * 2, none⟩ (.int .i64 z)) => s.is.2.1
                have hS3 := fun s : SW (Cs4 wr ⟨wq.heap.size, 0, none⟩ (.int .i64 x) ⟨wq.heap.size, 1, none⟩ (.int .i64 y) ⟨w.heap.size, 2, none⟩ (.slice (some ⟨g', 0, none⟩) n c') ⟨g', m * 2, none⟩ (.int .i64 z)) => s.is.2.2.1
                have hS4 := fun s : SW (Cs4 wr ⟨wq.heap.size, 0, none⟩ (.int .i64 x) ⟨wq.heap.size, 1, none⟩ (.int .i64 y) ⟨w.heap.size, 2, none⟩ (.slice (some ⟨g', 0, none⟩) n c') ⟨g', m * 2, none⟩ (.int .i64 z)) => s.is.2.2.2.1
                refine wp_region_S (Cs4 wr ⟨wq.heap.size, 0, none⟩ (.int .i64 x) ⟨wq.heap.size, 1, none⟩ (.int .i64 y) ⟨w.heap.size, 2, none⟩ (.slice (some ⟨g', 0, none⟩) n c') ⟨g', m * 2, none⟩ (.int .i64 z)) (by kernel_rfl) (by kernel_rfl) hS0 ?_
                repeat (go_big_quiet_step ((rename_i s0; go_at_call 50; refine (l1In_at _ _ _ s0).mono ?_; rintro e w' ⟨rfl, rfl⟩; rw [h1]; exact ⟨rfl, ⟨s0, rfl⟩⟩)))
                refine wpQuiet_nil ?_
                rintro _ ⟨s, rfl⟩
                obtain ⟨q1, q2, q3, q4, hQf⟩ := s.is
                clear hS0 hSN hS1 hS2 hS3 hS4 b0 b1 f2 hQa
                generalize s.w = wz at *
                go_wp2
                go_ret
                exact ⟨by show Ending.returned (.bool false) = _; rw [HV.out, HF.out], more hB hQf⟩

        · have : k = n := by omega
          subst this
          go_wp2
          go_ret
          exact ⟨by show Ending.returned (.bool true) = _; rw [HV.out, HP.out], more hB hQ⟩

end Go.Proofs.Ytjilbfohfgalkaa
/- What the exact laws' helpers on servers do: szServer, toServer, eqServer. -/
namespace Go.Proofs.Ytjilbfohfgalkaa
open Go.RowKit

theorem hidOf' {p : Prop} (h : p) : Hid p := h
def szV (l : Int) (n m : Nat) : Int := if l - (n : Int) < 0 then -1 else if l - (n : Int) - (m : Int) < 0 then -1 else l - (n : Int) - (m : Int)
/-- A server, as an answer: its numbers and its seats lie in memory of their own, apart. -/
def SrvIs (B : Nat) (x y : Value) (vs : List Int) (ss : List (Int × Int)) (W : World) : Prop := Ints B x vs W ∧ Seats B y ss W ∧ ∀ k, x.ownBlock = some k → y.ownBlock ≠ some k
theorem SrvIs.since {B : Nat} {x y : Value} {vs : List Int} {ss : List (Int × Int)} {W W' : World} (h : SrvIs B x y vs ss W) (hb : Below W.heap.size W W') : SrvIs B x y vs ss W' := ⟨h.1.since hb, h.2.1.since hb, h.2.2⟩

def sameS (ep : Int) (vs : List Int) (ss : List (Int × Int)) (ep' : Int) (vs' : List Int) (ss' : List (Int × Int)) : Bool := decide (ep = ep') && (eqI vs vs' && eqL ss ss')
theorem sameS_self (ep : Int) (vs : List Int) (ss : List (Int × Int)) : sameS ep vs ss ep vs ss = true := by simp [sameS, eqI, eqL]

end Go.Proofs.Ytjilbfohfgalkaa
/- A node's key: l3Key, keyAt, KeyAt of the program and of the model. -/
namespace Go.Proofs.Ytjilbfohfgalkaa
open Go.RowKit

theorem serverB_len {ep : Int} {vs : List Int} {ss : List (Int × Int)} (h : serverB ep vs ss = true) : vs.length = 15 := by
  simp [serverB, versB] at h
  exact h.2.1.1
def atB (ep : Int) (vs : List Int) (ss : List (Int × Int)) (node : Int) : Bool := serverB ep vs ss && decide (1 ≤ node ∧ node ≤ 15)
def atK (ep : Int) (vs : List Int) (ss : List (Int × Int)) (node : Int) : Int × Int := if (serverB ep vs ss && decide (1 ≤ node ∧ node ≤ 15)) = true then (node, vAt vs (node - 1).toNat) else (0, 0)

set_option maxHeartbeats 1000000 in
theorem l3Key_any {B : Nat} {x y : Value} {vs : List Int} {w : World} (ep : Int) (j : Nat) (hj : j < 15) (hl : vs.length = 15) (hx : Ints B x vs w) :
    Calls Try.prog 59 #[svv ep x y, .int .i64 ((j : Int) + 1)] w fun e w' => e = .returned (kv ((j : Int) + 1) (vAt vs j)) ∧ Below w.heap.size w w' := by
  have hB2 := two_below w (svb ep x y) (kb 0 0)
  obtain ⟨a, c, hv, _, hrow⟩ := (hx.since (one_below w (svb ep x y))).row
  subst hv
  rw [hl]
  rw [hl] at hB2
  obtain ⟨g, rfl, hg, hseg⟩ : ∃ g, a = some ⟨g, 0, none⟩ ∧ g < (w.alloc (svb ep (.slice a vs.length c) y)).heap.size ∧ ISeg g 0 vs (w.alloc (svb ep (.slice a vs.length c) y)) := by
    rcases hrow with e | e
    · rw [e] at hl; simp at hl
    · exact e
  rw [hl] at hg hseg
  obtain ⟨c0, c1, c2⟩ := scell3 w ep (.slice (some ⟨g, 0, none⟩) 15 c) y
  have d1 := cell_since c1 (one_below _ (kb 0 0))
  have a1 := hseg j (by omega)
  rw [Nat.zero_add] at a1
  have e1 := cell_since a1 (one_below _ (kb 0 0))
  rw [vAt_get vs j (by omega)]
  generalize vs[j] = z at a1 e1
  clear hx hrow hseg c0 c2
  go_enter Try.func59, Try.ntmps59
  go_wp2
  exact bodyPost_ret (v := kv ((j : Int) + 1) z) (by simp [results, Try.results59, go_sem]) rfl ⟨rfl, two_below w _ _⟩

set_option maxHeartbeats 1000000 in
theorem keyAt_any {B : Nat} {x y : Value} {vs : List Int} {w : World} (ep : Int) (j : Nat) (hj : j < 15) (hl : vs.length = 15) (hx : Ints B x vs w) :
    Calls Try.prog 37 #[svv ep x y, .int .i64 ((j : Int) + 1)] w fun e w' => e = .returned (kv ((j : Int) + 1) (vAt vs j)) ∧ Below w.heap.size w w' := by
  have hB2 := two_below w (svb ep x y) (kb 0 0)
  obtain ⟨a, c, hv, _, hrow⟩ := (hx.since (one_below w (svb ep x y))).row
  subst hv
  rw [hl]
  rw [hl] at hB2
  obtain ⟨g, rfl, hg, hseg⟩ : ∃ g, a = some ⟨g, 0, none⟩ ∧ g < (w.alloc (svb ep (.slice a vs.length c) y)).heap.size ∧ ISeg g 0 vs (w.alloc (svb ep (.slice a vs.length c) y)) := by
    rcases hrow with e | e
    · rw [e] at hl; simp at hl
    · exact e
  rw [hl] at hg hseg
  obtain ⟨c0, c1, c2⟩ := scell3 w ep (.slice (some ⟨g, 0, none⟩) 15 c) y
  have d1 := cell_since c1 (one_below _ (kb 0 0))
  have a1 := hseg j (by omega)
  rw [Nat.zero_add] at a1
  have e1 := cell_since a1 (one_below _ (kb 0 0))
  rw [vAt_get vs j (by omega)]
  generalize vs[j] = z at a1 e1
  clear hx hrow hseg c0 c2
  go_enter Try.func37, Try.ntmps37
  go_wp2
  exact bodyPost_ret (v := kv ((j : Int) + 1) z) (by simp [results, Try.results37, go_sem]) rfl ⟨rfl, two_below w _ _⟩
end Go.Proofs.Ytjilbfohfgalkaa
/- Where a member sits: leafOf of the program, l3Leaf of the model. -/
namespace Go.Proofs.Ytjilbfohfgalkaa
open Go.RowKit

def seatOf (ss : List (Int × Int)) (m : Int) : Option Int := (ss.find? (fun s => decide (s.1 = m))).map Prod.snd
def leafV (ss : List (Int × Int)) (m : Int) : Int := (seatOf ss m).getD 0
theorem kAt_succ (s : Int × Int) (ss : List (Int × Int)) (j : Nat) : kAt (s :: ss) (j + 1) = kAt ss j := by simp [kAt]
theorem seatOf_hit : ∀ (ss : List (Int × Int)) (m : Int) (k : Nat), (∀ j, j < k → (kAt ss j).1 ≠ m) → k < ss.length → (kAt ss k).1 = m → seatOf ss m = some (kAt ss k).2
  | [], _, _, _, h, _ => by simp at h
  | s :: ss, m, 0, _, _, h => by
    have e : kAt (s :: ss) 0 = s := by simp [kAt]
    rw [e] at h ⊢
    simp [seatOf, h]
  | s :: ss, m, k + 1, h1, h2, h3 => by
    have h0 : (kAt (s :: ss) 0).1 ≠ m := h1 0 (by omega)
    have e : kAt (s :: ss) 0 = s := by simp [kAt]
    rw [e] at h0
    rw [kAt_succ] at h3 ⊢
    have := seatOf_hit ss m k (fun j hj => by have := h1 (j + 1) (by omega); rwa [kAt_succ] at this) (by simpa using h2) h3
    rw [← this]
    simp [seatOf, h0]
theorem seatOf_none : ∀ (ss : List (Int × Int)) (m : Int), (∀ j, j < ss.length → (kAt ss j).1 ≠ m) → seatOf ss m = none
  | [], _, _ => rfl
  | s :: ss, m, h => by
    have h0 : (kAt (s :: ss) 0).1 ≠ m := h 0 (by simp)
    have e : kAt (s :: ss) 0 = s := by simp [kAt]
    rw [e] at h0
    have := seatOf_none ss m (fun j hj => by have := h (j + 1) (by simpa using hj); rwa [kAt_succ] at this)
    rw [← this]
    simp [seatOf, h0]
theorem seatOf_mem {ss : List (Int × Int)} {m l : Int} (h : seatOf ss m = some l) : ∃ k, k < ss.length ∧ (kAt ss k).2 = l := by
  unfold seatOf at h
  obtain ⟨s, hs, rfl⟩ := Option.map_eq_some_iff.1 h
  obtain ⟨k, hk, e⟩ := List.getElem_of_mem (List.mem_of_find?_eq_some hs)
  exact ⟨k, hk, by rw [kAt_get ss k hk, e]⟩
theorem seatOf_leaf {ep : Int} {vs : List Int} {ss : List (Int × Int)} {m l : Int} (h : serverB ep vs ss = true) (hs : seatOf ss m = some l) : 8 ≤ l ∧ l ≤ 15 := by
  obtain ⟨k, hk, rfl⟩ := seatOf_mem hs
  unfold serverB seatsB seatsTo at h
  simp only [Bool.and_eq_true, List.all_eq_true] at h
  have := h.2.2.2 k (List.mem_range.2 hk)
  unfold seatAt at this
  simp only [Bool.and_eq_true, decide_eq_true_eq] at this
  exact this.2.1

set_option maxHeartbeats 1000000 in
theorem leafOf_any {C : Nat} {x y : Value} {ss : List (Int × Int)} {w : World} (ep m : Int) (hy : Seats C y ss w) :
    Calls Try.prog 35 #[svv ep x y, .int .i64 m] w fun e w' => e = .returned (.tuple #[.int .i64 (leafV ss m), .bool (seatOf ss m).isSome]) ∧ Below w.heap.size w w' := by
  have hB1 := one_below w (svb ep x y)
  obtain ⟨a, c, hv, hm, hrow⟩ := (hy.since hB1).row
  subst hv
  obtain ⟨c0, c1, c2⟩ := scell3 w ep x (.slice a ss.length c)
  have HR := hidOf' hrow
  clear hrow hy
  unfold maxLen at hm
  generalize hn : ss.length = n at *
  go_enter Try.func35, Try.ntmps35
  go_wp2
  generalize w.alloc (svb ep x (.slice a n c)) = w1 at *
  go_loopw [11] (fun i wr => ∃ k : Nat, i = .int .i64 (k : Int) ∧ k ≤ n ∧ Hid (∀ j, j < k → (kAt ss j).1 ≠ m) ∧ Below w1.heap.size w1 wr) (fun i _ => n - (intOf i).toNat)
  case atStart => exact ⟨0, rfl, Nat.zero_le _, fun j hj => absurd hj (Nat.not_lt_zero _), Below.refl _ _⟩
  case round =>
    obtain ⟨k, rfl, hkn, HP, hB⟩ := hrel
    by_cases hlt : k < n
    · have hlk : k < ss.length := by omega
      obtain ⟨g, ha, hg, hseg⟩ : ∃ g, a = some ⟨g, 0, none⟩ ∧ g < w1.heap.size ∧ KSeg g 0 ss w1 := by
        rcases HR.out with e | e
        · rw [e] at hlk; simp at hlk
        · exact e
      subst ha
      obtain ⟨a1, a2⟩ := hseg k hlk
      simp only [Nat.zero_add] at a1 a2
      have e1 := cell_since a1 hB
      have e2 := cell_since a2 hB
      have HK := hidOf' (kAt_get ss k hlk)
      clear hseg a1 a2
      obtain ⟨p, q, hpq⟩ : ∃ p q, ss[k] = (p, q) := ⟨_, _, rfl⟩
      rw [hpq] at e1 e2 HK
      clear hpq
      have HB' := hidOf' (hB.alloc hB.size (sb p q))
      by_cases hp : p = m
      · have hp' : (p == m) = true := by simpa using hp
        have HH := hidOf' (seatOf_hit ss m k HP.out hlk (by rw [HK.out]; exact hp))
        subst hp
        go_wp2
        have h1 := HH.out
        rw [HK.out] at h1
        exact bodyPost_ret (v := .tuple #[.int .i64 q, .bool true]) (by simp [results, Try.results35, go_sem]) rfl ⟨by unfold leafV; rw [h1]; rfl, more hB1 HB'.out⟩
      · have hp' : (p == m) = false := by simpa using hp
        have HN := hidOf' (show ∀ j, j < k + 1 → (kAt ss j).1 ≠ m from fun j hj => by
          by_cases e : j < k
          · exact HP.out j e
          · obtain rfl : j = k := by omega
            rw [HK.out]; exact hp)
        go_wp2
        go_roundw
        case rel => exact ⟨k + 1, by go_num, by omega, HN.out, HB'.out⟩
        case measure => simp [intOf] <;> omega
    · obtain rfl : k = n := by omega
      have HN := hidOf' (seatOf_none ss m (fun j hj => HP.out j (by omega)))
      go_wp2
      exact bodyPost_ret (v := .tuple #[.int .i64 0, .bool false]) (by simp [results, Try.results35, go_sem]) rfl ⟨by unfold leafV; rw [HN.out]; rfl, more hB1 hB⟩

set_option maxHeartbeats 1000000 in
theorem l3Leaf_any {C : Nat} {x y : Value} {ss : List (Int × Int)} {w : World} (ep m : Int) (hy : Seats C y ss w) :
    Calls Try.prog 32 #[svv ep x y, .int .i64 m] w fun e w' => e = .returned (.int .i64 (leafV ss m)) ∧ Below w.heap.size w w' := by
  have hB1 := one_below w (svb ep x y)
  obtain ⟨a, c, hv, hm, hrow⟩ := (hy.since hB1).row
  subst hv
  obtain ⟨c0, c1, c2⟩ := scell3 w ep x (.slice a ss.length c)
  have HR := hidOf' hrow
  clear hrow hy
  unfold maxLen at hm
  generalize hn : ss.length = n at *
  go_enter Try.func32, Try.ntmps32
  go_wp2
  generalize w.alloc (svb ep x (.slice a n c)) = w1 at *
  go_loopw [5] (fun i wr => ∃ k : Nat, i = .int .i64 (k : Int) ∧ k ≤ n ∧ Hid (∀ j, j < k → (kAt ss j).1 ≠ m) ∧ wr = w1) (fun i _ => n - (intOf i).toNat)
  case atStart => exact ⟨0, rfl, Nat.zero_le _, fun j hj => absurd hj (Nat.not_lt_zero _), rfl⟩
  case round =>
    obtain ⟨k, rfl, hkn, HP, hwr⟩ := hrel
    subst hwr
    by_cases hlt : k < n
    · have hlk : k < ss.length := by omega
      obtain ⟨g, ha, hg, hseg⟩ : ∃ g, a = some ⟨g, 0, none⟩ ∧ g < wr.heap.size ∧ KSeg g 0 ss wr := by
        rcases HR.out with e | e
        · rw [e] at hlk; simp at hlk
        · exact e
      subst ha
      obtain ⟨e1, e2⟩ := hseg k hlk
      simp only [Nat.zero_add] at e1 e2
      have HK := hidOf' (kAt_get ss k hlk)
      clear hseg
      obtain ⟨p, q, hpq⟩ : ∃ p q, ss[k] = (p, q) := ⟨_, _, rfl⟩
      rw [hpq] at e1 e2 HK
      clear hpq
      by_cases hp : p = m
      · have hp' : (p == m) = true := by simpa using hp
        have HH := hidOf' (seatOf_hit ss m k HP.out hlk (by rw [HK.out]; exact hp))
        subst hp
        go_wp2
        go_ret
        have h1 := HH.out
        rw [HK.out] at h1
        exact ⟨by unfold leafV; rw [h1]; rfl, hB1⟩
      · have hp' : (p == m) = false := by simpa using hp
        have HN := hidOf' (show ∀ j, j < k + 1 → (kAt ss j).1 ≠ m from fun j hj => by
          by_cases e : j < k
          · exact HP.out j e
          · obtain rfl : j = k := by omega
            rw [HK.out]; exact hp)
        go_wp2
        go_roundw
        case rel => exact ⟨k + 1, by go_num, by omega, HN.out, trivial⟩
        case measure => simp [intOf] <;> omega
    · obtain rfl : k = n := by omega
      have HN := hidOf' (seatOf_none ss m (fun j hj => HP.out j (by omega)))
      go_wp2
      go_ret
      exact ⟨by unfold leafV; rw [HN.out]; rfl, hB1⟩
end Go.Proofs.Ytjilbfohfgalkaa
/- Four keys turned round in place: slices.Reverse. -/
namespace Go.Proofs.Ytjilbfohfgalkaa
open Go.RowKit

theorem Keys.cells4 {B g cap : Nat} {ks : List (Int × Int)} {W : World} (h : Keys B (.slice (some ⟨g, 0, none⟩) 4 cap) ks W) : KSeg g 0 ks W ∧ ∀ o, W.frozen? ⟨g, o, none⟩ = false := by
  rcases h.form with ⟨e, _⟩ | ⟨g', cap', e, _, _, _, _, h3, h4⟩
  · cases e
  · injection e with e
    injection e with e
    injection e with e
    subst e
    exact ⟨h3, h4⟩
theorem four_cells {B g cap : Nat} {a b c d : Int × Int} {W : World} (h : Keys B (.slice (some ⟨g, 0, none⟩) 4 cap) [a, b, c, d] W) :
    (W.cell? ⟨g, 0, none⟩ = some (.int .i64 a.1) ∧ W.cell? ⟨g, 1, none⟩ = some (.int .i64 a.2)) ∧ (W.cell? ⟨g, 2, none⟩ = some (.int .i64 b.1) ∧ W.cell? ⟨g, 3, none⟩ = some (.int .i64 b.2)) ∧ (W.cell? ⟨g, 4, none⟩ = some (.int .i64 c.1) ∧ W.cell? ⟨g, 5, none⟩ = some (.int .i64 c.2)) ∧ (W.cell? ⟨g, 6, none⟩ = some (.int .i64 d.1) ∧ W.cell? ⟨g, 7, none⟩ = some (.int .i64 d.2)) := by
  obtain ⟨hs, _⟩ := h.cells4
  have h0 := hs 0 (by simp)
  have h1 := hs 1 (by simp)
  have h2 := hs 2 (by simp)
  have h3 := hs 3 (by simp)
  exact ⟨h0, h1, h2, h3⟩

set_option maxRecDepth 100000 in
set_option maxHeartbeats 4000000 in
theorem reverse4_any {B g cap : Nat} {a b c d : Int × Int} {w : World} (h : Keys B (.slice (some ⟨g, 0, none⟩) 4 cap) [a, b, c, d] w) :
    Calls Try.prog 38 #[.slice (some ⟨g, 0, none⟩) 4 cap] w fun e w' => e = .returned (.tuple #[]) ∧ Keys B (.slice (some ⟨g, 0, none⟩) 4 cap) [d, c, b, a] w' ∧ w.grownBy w' (some g) := by
  obtain ⟨a1, a2⟩ := a
  obtain ⟨b1, b2⟩ := b
  obtain ⟨c1, c2⟩ := c
  obtain ⟨d1, d2⟩ := d
  obtain ⟨⟨t0, t1⟩, ⟨t2, t3⟩, ⟨t4, t5⟩, ⟨t6, t7⟩⟩ := four_cells h
  obtain ⟨_, hf⟩ := h.cells4
  have f0 := hf 0
  have f1 := hf 1
  have f6 := hf 6
  have f7 := hf 7
  obtain ⟨S1, G1⟩ := h.stored rfl 0 (by simp) d1 d2
  obtain ⟨S2, G2⟩ := S1.stored rfl 3 (by simp) a1 a2
  have HS : Hid (Keys B (.slice (some ⟨g, 0, none⟩) 4 cap) [(d1, d2), (b1, b2), (c1, c2), (a1, a2)] ((((w.setCell ⟨g, 0, none⟩ (.int .i64 d1)).setCell ⟨g, 1, none⟩ (.int .i64 d2)).setCell ⟨g, 6, none⟩ (.int .i64 a1)).setCell ⟨g, 7, none⟩ (.int .i64 a2))) := S2
  have HG : Hid (w.grownBy ((((w.setCell ⟨g, 0, none⟩ (.int .i64 d1)).setCell ⟨g, 1, none⟩ (.int .i64 d2)).setCell ⟨g, 6, none⟩ (.int .i64 a1)).setCell ⟨g, 7, none⟩ (.int .i64 a2)) (some g)) := G1.trans G2
  clear S1 S2 G1 G2 hf h
  simp only at t0 t1 t2 t3 t4 t5 t6 t7
  go_enter Try.func38, Try.ntmps38
  go_wp2
  refine wp_loop_rounds 3 ?_
  rw [rounds_succ]
  go_wp2
  go_region
  go_wp2
  have hS := HS.out
  have hG := HG.out
  clear HS HG t0 t1 t2 t3 t4 t5 t6 t7 f0 f1 f6 f7
  have hS1 : Keys B (.slice (some ⟨g, 0, none⟩) 4 cap) [(d1, d2), (b1, b2), (c1, c2), (a1, a2)] ((((w.setCell ⟨g, 0, none⟩ (.int .i64 d1)).setCell ⟨g, 1, none⟩ (.int .i64 d2)).setCell ⟨g, 6, none⟩ (.int .i64 a1)).setCell ⟨g, 7, none⟩ (.int .i64 a2)).drew := hS
  have hG1 : w.grownBy ((((w.setCell ⟨g, 0, none⟩ (.int .i64 d1)).setCell ⟨g, 1, none⟩ (.int .i64 d2)).setCell ⟨g, 6, none⟩ (.int .i64 a1)).setCell ⟨g, 7, none⟩ (.int .i64 a2)).drew (some g) := hG.trans ⟨rfl, rfl, rfl, Nat.le_refl _, fun _ _ _ => rfl⟩
  generalize ((((w.setCell ⟨g, 0, none⟩ (.int .i64 d1)).setCell ⟨g, 1, none⟩ (.int .i64 d2)).setCell ⟨g, 6, none⟩ (.int .i64 a1)).setCell ⟨g, 7, none⟩ (.int .i64 a2)).drew = w1 at *
  clear hS hG
  obtain ⟨⟨t0, t1⟩, ⟨t2, t3⟩, ⟨t4, t5⟩, ⟨t6, t7⟩⟩ := four_cells hS1
  obtain ⟨_, hf⟩ := hS1.cells4
  have f2 := hf 2
  have f3 := hf 3
  have f4 := hf 4
  have f5 := hf 5
  obtain ⟨S1, G1⟩ := hS1.stored rfl 1 (by simp) c1 c2
  obtain ⟨S2, G2⟩ := S1.stored rfl 2 (by simp) b1 b2
  have HS : Hid (Keys B (.slice (some ⟨g, 0, none⟩) 4 cap) [(d1, d2), (c1, c2), (b1, b2), (a1, a2)] ((((w1.setCell ⟨g, 2, none⟩ (.int .i64 c1)).setCell ⟨g, 3, none⟩ (.int .i64 c2)).setCell ⟨g, 4, none⟩ (.int .i64 b1)).setCell ⟨g, 5, none⟩ (.int .i64 b2))) := S2
  have HG : Hid (w.grownBy ((((w1.setCell ⟨g, 2, none⟩ (.int .i64 c1)).setCell ⟨g, 3, none⟩ (.int .i64 c2)).setCell ⟨g, 4, none⟩ (.int .i64 b1)).setCell ⟨g, 5, none⟩ (.int .i64 b2)) (some g)) := hG1.trans (G1.trans G2)
  clear S1 S2 G1 G2 hf hS1 hG1
  simp only at t0 t1 t2 t3 t4 t5 t6 t7
  rw [rounds_succ]
  go_wp2
  go_region
  go_wp2
  have hS := HS.out
  have hG := HG.out
  clear HS HG t0 t1 t2 t3 t4 t5 t6 t7 f2 f3 f4 f5
  have hS1 : Keys B (.slice (some ⟨g, 0, none⟩) 4 cap) [(d1, d2), (c1, c2), (b1, b2), (a1, a2)] ((((w1.setCell ⟨g, 2, none⟩ (.int .i64 c1)).setCell ⟨g, 3, none⟩ (.int .i64 c2)).setCell ⟨g, 4, none⟩ (.int .i64 b1)).setCell ⟨g, 5, none⟩ (.int .i64 b2)).drew := hS
  have hG1 : w.grownBy ((((w1.setCell ⟨g, 2, none⟩ (.int .i64 c1)).setCell ⟨g, 3, none⟩ (.int .i64 c2)).setCell ⟨g, 4, none⟩ (.int .i64 b1)).setCell ⟨g, 5, none⟩ (.int .i64 b2)).drew (some g) := hG.trans ⟨rfl, rfl, rfl, Nat.le_refl _, fun _ _ _ => rfl⟩
  generalize ((((w1.setCell ⟨g, 2, none⟩ (.int .i64 c1)).setCell ⟨g, 3, none⟩ (.int .i64 c2)).setCell ⟨g, 4, none⟩ (.int .i64 b1)).setCell ⟨g, 5, none⟩ (.int .i64 b2)).drew = w2 at *
  clear hS hG
  rw [rounds_succ]
  go_wp2
  go_end0
  exact ⟨rfl, hS1, hG1⟩
end Go.Proofs.Ytjilbfohfgalkaa
/- Contracts of the program's tree of parents: newTree, isNode. -/
namespace Go.Proofs.Ytjilbfohfgalkaa
open Go.RowKit

abbrev treeCells : Array Value := #[.int .i64 0, .int .i64 0, .int .i64 1, .int .i64 1, .int .i64 2, .int .i64 2, .int .i64 3, .int .i64 3, .int .i64 4, .int .i64 4, .int .i64 5, .int .i64 5, .int .i64 6, .int .i64 6, .int .i64 7, .int .i64 7]
abbrev treeObj : Obj := .cells treeCells 97

def par (k : Nat) : Int := if k < 2 then 0 else (k : Int) / 2
theorem info64 : (Try.prog.info? 2).map (fun i => (i.zero, i.size, i.bytes)) = some (some (.int .i64 0), 1, 8) := by kernel_rfl
theorem l1In_any (n lo hi : Int) (w : World) :
    Calls Try.prog 50 #[.int .i64 n, .int .i64 lo, .int .i64 hi] w fun e w' => e = .returned (.bool (decide (lo ≤ n ∧ n ≤ hi))) ∧ w' = w := by
  by_cases h1 : lo ≤ n
  · by_cases h2 : n ≤ hi
    · rw [decide_eq_true ⟨h1, h2⟩]
      go_enter Try.func50, Try.ntmps50
      go_wp2
      go_ret
      exact ⟨by simp, rfl⟩
    · rw [decide_eq_false (fun h => h2 h.2)]
      go_enter Try.func50, Try.ntmps50
      go_wp2
      go_ret
      exact ⟨by simp, rfl⟩
  · rw [decide_eq_false (fun h => h1 h.1)]
    go_enter Try.func50, Try.ntmps50
    go_wp2
    go_ret
    exact ⟨rfl, rfl⟩

theorem isNode_any (n : Int) (w : World) :
    Calls Try.prog 76 #[.int .i64 n] w fun e w' => e = .returned (.bool (decide (1 ≤ n ∧ n ≤ 15))) ∧ w' = w := by
  by_cases h1 : 1 ≤ n
  · by_cases h2 : n ≤ 15
    · rw [decide_eq_true ⟨h1, h2⟩]
      go_enter Try.func76, Try.ntmps76
      go_wp2
      go_ret
      exact ⟨by simp, rfl⟩
    · rw [decide_eq_false (fun h => h2 h.2)]
      go_enter Try.func76, Try.ntmps76
      go_wp2
      go_ret
      exact ⟨by simp, rfl⟩
  · rw [decide_eq_false (fun h => h1 h.1)]
    go_enter Try.func76, Try.ntmps76
    go_wp2
    go_ret
    exact ⟨rfl, rfl⟩

set_option maxHeartbeats 1000000 in
theorem newTree_any (w : World) :
    Calls Try.prog 62 #[] w fun e w' => e = .returned (.agg treeCells) ∧ w' = (w.alloc treeObj).alloc treeObj := by
  go_enter Try.func62, Try.ntmps62
  go_wp2
  refine wp_loop_rounds 15 ?_
  repeat any_goals (rw [rounds_succ]; go_wp2)
  exact bodyPost_ret (v := .agg treeCells) (by simp [results, Try.results62, go_sem]) rfl ⟨rfl, rfl⟩
end Go.Proofs.Ytjilbfohfgalkaa
/- Contracts of the walk up the tree, by a range over a function: PathOf and isOnPath of the program, PathOf of the model. -/
namespace Go.Proofs.Ytjilbfohfgalkaa
open Go.RowKit Go.Shelf
attribute [local go_sem] Oper.semAt_some

/-- The way from m to the root; none from 0 on. -/
def pathF : Nat → Nat → List Int
  | 0, _ => []
  | f + 1, m => if m = 0 then [] else (m : Int) :: pathF f (m / 2)
def path (n : Int) : List Int := if 1 ≤ n ∧ n ≤ 15 then pathF 5 n.toNat else []
theorem pathF_step (m : Nat) (h0 : 0 < m) (h1 : m ≤ 15) : pathF 5 m = (m : Int) :: pathF 5 (m / 2) := by
  have : m = 1 ∨ m = 2 ∨ m = 3 ∨ m = 4 ∨ m = 5 ∨ m = 6 ∨ m = 7 ∨ m = 8 ∨ m = 9 ∨ m = 10 ∨ m = 11 ∨ m = 12 ∨ m = 13 ∨ m = 14 ∨ m = 15 := by omega
  rcases this with rfl | rfl | rfl | rfl | rfl | rfl | rfl | rfl | rfl | rfl | rfl | rfl | rfl | rfl | rfl <;> decide
theorem pathF_len (m : Nat) (h1 : m ≤ 15) : (pathF 5 m).length ≤ 4 := by
  have : m = 0 ∨ m = 1 ∨ m = 2 ∨ m = 3 ∨ m = 4 ∨ m = 5 ∨ m = 6 ∨ m = 7 ∨ m = 8 ∨ m = 9 ∨ m = 10 ∨ m = 11 ∨ m = 12 ∨ m = 13 ∨ m = 14 ∨ m = 15 := by omega
  rcases this with rfl | rfl | rfl | rfl | rfl | rfl | rfl | rfl | rfl | rfl | rfl | rfl | rfl | rfl | rfl | rfl <;> decide
theorem path_len (n : Int) : (path n).length ≤ 4 := by
  unfold path
  split
  · exact pathF_len _ (by omega)
  · simp
theorem par_half (m : Nat) (h0 : 0 < m) : par m = ((m / 2 : Nat) : Int) := by
  unfold par
  split
  · obtain rfl : m = 1 := by omega
    rfl
  · omega

theorem tree_cell {W : World} {b : Nat} (h : W.heap[b]? = some treeObj) (m : Nat) (hm : m < 16) : W.cell? ⟨b, m, none⟩ = some (.int .i64 (par m)) := by
  have : m = 0 ∨ m = 1 ∨ m = 2 ∨ m = 3 ∨ m = 4 ∨ m = 5 ∨ m = 6 ∨ m = 7 ∨ m = 8 ∨ m = 9 ∨ m = 10 ∨ m = 11 ∨ m = 12 ∨ m = 13 ∨ m = 14 ∨ m = 15 := by omega
  rcases this with rfl | rfl | rfl | rfl | rfl | rfl | rfl | rfl | rfl | rfl | rfl | rfl | rfl | rfl | rfl | rfl <;> simp [World.cell?, h, par]

/-- What the iterator reads: the node's box and the tree's. -/
def KpT (bn bt : Nat) (A B : World) : Prop := B.heap[bn]? = A.heap[bn]? ∧ B.heap[bt]? = A.heap[bt]?
theorem KpT.trans {bn bt : Nat} {A B C : World} (h : KpT bn bt A B) (k : KpT bn bt B C) : KpT bn bt A C := ⟨k.1.trans h.1, k.2.trans h.2⟩
theorem KpT.book {bn bt : Nat} {w : World} (hn : bn < w.heap.size) (ht : bt < w.heap.size) (W : World) (l : Nat) (o o' : Obj) (hl : w.heap.size ≤ l) (h : W.heap[l]? = some o) (_ : o.isCells = false) (_ : o.isWalk = false) : KpT bn bt W (W.putObj l o') := by
  have hW := (Array.getElem?_eq_some_iff.1 h).1
  have hg := grownBy_putObj' W l o'
  exact ⟨hg.block bn (by omega) (by simp; omega), hg.block bt (by omega) (by simp; omega)⟩

set_option maxHeartbeats 1000000 in
theorem up_any (n : Int) (w : World) :
    Calls Try.prog 63 #[.agg treeCells, .int .i64 n] w fun e w' => e = .returned (.func (.func 79) #[] #[.pointer (some ⟨w.heap.size + 1, 0, none⟩), .pointer (some ⟨w.heap.size, 0, none⟩)]) ∧ w' = (w.alloc treeObj).alloc (.cells #[.int .i64 n] 2) := by
  have hmf : ∀ (fn : Fn) (first cap : Array Value) (w : World), (Instr.makeFunc fn first cap).run Try.prog w = .ok (.func fn first cap) w := fun _ _ _ _ => rfl
  go_enter Try.func63, Try.ntmps63
  go_wp2
  go_ret
  exact ⟨rfl, rfl⟩

set_option maxRecDepth 100000 in
set_option maxHeartbeats 1000000 in
theorem up1_in (n : Nat) (hn : 2 ≤ n) (l bn bt : Nat) (x : Int) (J Jx : List Int → World → Prop)
    (hY : ∀ pre y W, J pre W → pre.length < (path x).length → YieldAt Fence.wide (n - 1) Try.prog l #[.int .i64 y] W fun e W' =>
      (e = .returned (.bool true) ∧ J (pre ++ [y]) W' ∧ KpT bn bt W W') ∨ (e = .returned (.bool false) ∧ Jx (pre ++ [y]) W'))
    (W : World) (hbn : W.heap[bn]? = some (.cells #[.int .i64 x] 2)) (hbt : W.heap[bt]? = some treeObj) (h0 : J [] W) :
    CallsIn Fence.wide n Try.prog 79 #[.func (.yield l) #[] #[], .pointer (some ⟨bn, 0, none⟩), .pointer (some ⟨bt, 0, none⟩)] W fun e W' => (∃ v, e = .returned v) ∧
      ((∃ ys, ys = path x ∧ J ys W') ∨ (∃ pre, pre <+: path x ∧ Jx pre W')) := by
  have hf1 : Fence.wide.fn 79 := trivial
  have hf2 : Fence.wide.fn 76 := trivial
  have hcn : W.cell? ⟨bn, 0, none⟩ = some (.int .i64 x) := by simp [World.cell?, hbn]
  refine callsIn_of_wp Try.func79 rfl hf1 ?_ rfl
  simp only [Try.ntmps79, List.size_toArray, List.length_cons, List.length_nil, Nat.reduceAdd, Nat.reduceSub, Array.replicate_succ, Array.replicate_zero, List.push_toArray, List.append_toArray, List.nil_append, List.cons_append]
  by_cases hx : 1 ≤ x ∧ x ≤ 15
  · have hd : decide (1 ≤ x ∧ x ≤ 15) = true := decide_eq_true hx
    have hm0 : Hid (x = ((x.toNat : Nat) : Int)) := show x = _ by omega
    have hp : path x = pathF 5 x.toNat := by unfold path; rw [if_pos hx]
    rw [hp] at hY ⊢
    gi_wp2_with fail
    refine ⟨fun _ => (by omega), ?_⟩
    refine (callsIn_wide.2 (isNode_any _ _)).mono ?_
    rintro e w' ⟨rfl, rfl⟩
    rw [hd]
    gi_wp2
    gi_loopw [4] (fun p wr => ∃ (pre : List Int) (m : Nat), p = .int .i64 (m : Int) ∧ m ≤ 15 ∧ pathF 5 x.toNat = pre ++ pathF 5 m ∧ wr.heap[bt]? = some treeObj ∧ J pre wr)
      (fun p _ => (intOf p).toNat)
    case atStart => exact ⟨[], x.toNat, by rw [← hm0.out], by omega, rfl, hbt, h0⟩
    case round =>
      obtain ⟨pre, m, rfl, hm, hpre, hT, hJ⟩ := hrel
      by_cases hz : m = 0
      · subst hz
        gi_wp2
        go_end0
        exact ⟨⟨_, rfl⟩, .inl ⟨pre, by rw [hpre]; simp [pathF], hJ⟩⟩
      · have hst := pathF_step m (by omega) hm
        have hz' : ((m : Int) == 0) = false := by simp; omega
        obtain ⟨fn, tmps, assign, body, hy, hR⟩ := hY pre m wr hJ (by rw [hpre, hst]; simp)
        gi_wp2
        refine ⟨fun _ => (by omega), ?_⟩
        refine hR.mono ?_
        rintro e W3 (⟨rfl, hJ3, hk3⟩ | ⟨rfl, hJx3⟩)
        · have hT3 : W3.heap[bt]? = some treeObj := hk3.2.trans hT
          have hc3 := tree_cell hT3 m (by omega)
          rw [par_half m (by omega)] at hc3
          gi_wp2
          go_roundw
          case rel => exact ⟨pre ++ [(m : Int)], m / 2, by rfl, by omega, by rw [hpre, hst]; simp, hT3, hJ3⟩
          case measure => simp [intOf]; omega
        · gi_wp2
          refine bodyPost_ret (results_none rfl _ _ _) rfl ?_
          exact ⟨⟨_, rfl⟩, .inr ⟨pre ++ [(m : Int)], ⟨pathF 5 (m / 2), by rw [hpre, hst]; simp⟩, hJx3⟩⟩
  · have hd : decide (1 ≤ x ∧ x ≤ 15) = false := decide_eq_false hx
    have hp : path x = [] := by unfold path; rw [if_neg hx]
    gi_wp2_with fail
    refine ⟨fun _ => (by omega), ?_⟩
    refine (callsIn_wide.2 (isNode_any _ _)).mono ?_
    rintro e w' ⟨rfl, rfl⟩
    rw [hd]
    gi_wp2
    refine bodyPost_ret (results_none rfl _ _ _) rfl ?_
    exact ⟨⟨_, rfl⟩, .inl ⟨[], hp.symm, h0⟩⟩

theorem up1_stops (n : Nat) (hn : 2 ≤ n) (bn bt : Nat) (x : Int) (w : World) (hbn : w.heap[bn]? = some (.cells #[.int .i64 x] 2)) (hbt : w.heap[bt]? = some treeObj) :
    SeqStopsK Fence.wide n Try.prog 79 #[.pointer (some ⟨bn, 0, none⟩), .pointer (some ⟨bt, 0, none⟩)] (fun y : Int => #[Value.int .i64 y]) (KpT bn bt) (fun ys => ys = path x) (fun pre => pre <+: path x) (path x).length w := fun l J Jx W hW _ _ hY h0 =>
  up1_in n hn l bn bt x J Jx hY W ((hW.block bn (Array.getElem?_eq_some_iff.1 hbn).1).trans hbn) ((hW.block bt (Array.getElem?_eq_some_iff.1 hbt).1).trans hbt) h0

theorem ownsRow_mono {W : World} {b b' : Nat} {e : TypeId} {s n : Nat} {v : Value} {xs : List Value} (h : W.ownsRow b e s v n xs) (hb : b' ≤ b) : W.ownsRow b' e s v n xs := by
  refine ⟨h.1, ?_⟩
  rcases h.2 with hn | ⟨g, cap, cur, e, hg, rest⟩
  · exact .inl hn
  · exact .inr ⟨g, cap, cur, e, by omega, rest⟩

/-- 'out = append(out, ..)' in a box, the rows at or beyond b1. -/
theorem boxed_appended {W w1 : World} {n₀ B b1 : Nat} {t e : TypeId} {size : Nat} {v v' : Value} {k m : Nat} {xs ys : List Value} {tmp : Obj}
    (hv : Boxed W B t v) (hte : t ≠ e) (hrow : W.ownsRow b1 e size v k xs) (hb1 : b1 ≤ W.heap.size) (hn : n₀ ≤ b1) (hB : n₀ ≤ B)
    (hown' : w1.ownsRow b1 e size v' m ys) (hgrow : (W.alloc tmp).grownBy w1 v.ownBlock) :
    Boxed w1 B t v ∧ Boxed (w1.setCell ⟨B, 0, none⟩ v') B t v' ∧ (w1.setCell ⟨B, 0, none⟩ v').ownsRow b1 e size v' m ys ∧ KeepsOthers W (w1.setCell ⟨B, 0, none⟩ v') ∧ Below n₀ W (w1.setCell ⟨B, 0, none⟩ v') ∧
      ∀ j, j < b1 → j ≠ B → (w1.setCell ⟨B, 0, none⟩ v').heap[j]? = W.heap[j]? := by
  obtain ⟨a1, a2, _, a4, a5⟩ := hv.appended hte (ownsRow_mono hrow hn) (by omega) hB (ownsRow_mono hown' hn) hgrow
  refine ⟨a1, a2, hown'.kept (grownBy_setCell' w1 B v') (.inr (a1.not_row hte hown').symm), a4, a5, fun j hj hne => ?_⟩
  rw [(grownBy_setCell' w1 B v').block j (by have := hgrow.size; simp at this; omega) (by simpa using hne)]
  rw [hgrow.block j (by simp; omega) (fun e => by have := (World.ownsRow.lt hrow j e.symm).1; omega)]
  exact Below.heap_alloc _ _ _ (by omega)
end Go.Proofs.Ytjilbfohfgalkaa
/- The contract of PathOf of the program: the way from a node to the root, in new memory. -/
namespace Go.Proofs.Ytjilbfohfgalkaa
open Go.RowKit Go.Shelf
attribute [local go_sem] Oper.semAt_some

set_option maxRecDepth 100000 in
set_option maxHeartbeats 2000000 in
theorem pathOf_in (n : Nat) (hn : 6 ≤ n) (x : Int) (w : World) :
    CallsIn Fence.wide n Try.prog 36 #[.int .i64 x] w fun e W' => ∃ v, e = .returned v ∧ Ints w.heap.size v (path x) W' ∧ Below w.heap.size w W' := by
  have hf1 : Fence.wide.fn 36 := trivial
  have h1 : 1 ≤ n := by omega
  obtain ⟨i0, hi, hz0, hz1, hz2⟩ := info_parts info64
  refine callsIn_of_wp_marks Try.func36 rfl hf1 ?_ rfl
  simp only [Try.ntmps36, List.size_toArray, List.length_cons, List.length_nil, Nat.reduceAdd, Nat.reduceSub, Array.replicate_succ, Array.replicate_zero, List.push_toArray, List.append_toArray, List.nil_append, List.cons_append]
  gi_wp2_with fail
  refine ⟨trivial, ?_⟩
  refine (callsIn_wide.2 (newTree_any _)).mono ?_
  rintro e w' ⟨rfl, rfl⟩
  gi_wp2_with fail
  refine ⟨trivial, ?_⟩
  refine (callsIn_wide.2 (up_any _ _)).mono ?_
  rintro e w' ⟨rfl, rfl⟩
  have bO := ((((Boxed.new w 40 (.slice none 0 0)).alloc treeObj).alloc treeObj).alloc treeObj).alloc (.cells #[.int .i64 x] 2)
  have hB0 : Below w.heap.size w (((((w.alloc (.cells #[.slice none 0 0] 40)).alloc treeObj).alloc treeObj).alloc treeObj).alloc (.cells #[.int .i64 x] 2)) :=
    (((((Below.refl _ w).alloc (Nat.le_refl _) _).alloc (by simp) _).alloc (by simp; omega) _).alloc (by simp; omega) _).alloc (by simp; omega) _
  have hN := heap_alloc_new ((((w.alloc (.cells #[.slice none 0 0] 40)).alloc treeObj).alloc treeObj).alloc treeObj) (.cells #[.int .i64 x] 2)
  have hT := (Below.heap_alloc ((((w.alloc (.cells #[.slice none 0 0] 40)).alloc treeObj).alloc treeObj).alloc treeObj) (.cells #[.int .i64 x] 2) _ (by simp)).trans (heap_alloc_new (((w.alloc (.cells #[.slice none 0 0] 40)).alloc treeObj).alloc treeObj) treeObj)
  simp only [World.size_alloc] at hN hT
  gi_wp2_with fail
  have hsz : (((((w.alloc (.cells #[.slice none 0 0] 40)).alloc treeObj).alloc treeObj).alloc treeObj).alloc (.cells #[.int .i64 x] 2)).heap.size = w.heap.size + 5 := by simp
  generalize ((((w.alloc (.cells #[.slice none 0 0] 40)).alloc treeObj).alloc treeObj).alloc treeObj).alloc (.cells #[.int .i64 x] 2) = W0 at bO hB0 hN hT hsz ⊢
  have hlen := path_len x
  refine wpIn_rangeFunc_ownG rfl h1 (gf := 79) (lb := #[.pointer (some ⟨w.heap.size + 1 + 1 + 1 + 1, 0, none⟩), .pointer (some ⟨w.heap.size + 1 + 1 + 1, 0, none⟩)]) rfl trivial (enters_of Try.func79 (by kernel_rfl) rfl)
    (up1_stops (n - 1) (by omega) _ _ x W0 hN hT) KpT.trans (KpT.book (by omega) (by omega)) (Below.refl _ _) (fun _ => rfl)
    (fun (pre : List Int) W => (∃ v, Boxed W w.heap.size 40 v ∧ W.ownsRow W0.heap.size 2 1 v pre.length (pre.map (Value.int .i64)) ∧ True) ∧ Below w.heap.size w W ∧ W0.heap.size ≤ W.heap.size)
    (fun _ _ _ => False)
    ?hI
    (fun _ _ _ _ _ hs _ _ => hs)
    ⟨⟨_, bO, World.ownsRow_nil _ _ _ _, trivial⟩, hB0, Nat.le_refl _⟩
    (fun y => { tmps := #[.int .i64 x, undef, .slice none 0 0, .pointer (some ⟨w.heap.size, 0, none⟩), .int .i64 y, .agg treeCells, .int .i64 x, .func (.func 79) #[] #[.pointer (some ⟨w.heap.size + 1 + 1 + 1 + 1, 0, none⟩), .pointer (some ⟨w.heap.size + 1 + 1 + 1, 0, none⟩)], .int .i64 y, undef, undef, undef, undef, undef], defers := [] }) ?assign ?body ?done ?stop
  case hI =>
    refine OwnFrom.and (Own.from (holdsRow_own W0.heap.size w.heap.size 40 2 1 (fun pre : List Int => pre.length) (fun pre : List Int => pre.map (Value.int .i64)) (fun _ _ => True)) _) (OwnFrom.and (ownFrom_below (Nat.le_refl _) (by omega)) ?_)
    intro s A B row hs hg hr
    have := hg.size
    omega
  case assign =>
    intro l y W K hK
    gi_wp2
    exact hK
  case body =>
    rintro l pre y W ⟨⟨v, hv, hrow, _⟩, hB, hW0⟩ hlt
    have hc := hv.cell
    gi_wp2_with (gi_at_builtin; refine wpListIn_append_own _ rfl _ _ 40 rfl W0.heap.size 2 i0 (.int .i64 0) 1 8 Try.underlying40 hi hz0 hz1 hz2 rfl (by decide) _ _ _ rfl (hrow.alloc _) ⟨W.heap.size, 0, none⟩ 1 1 [.int .i64 y] rfl rfl (cell_one_new _ _ _) (by simp [Value.oneCell']) (by unfold maxLen; omega) (by omega) (by simp; omega) ?_; intro v' w1 hown' hgrow _; obtain ⟨g', cap', rfl⟩ := ownsRow_succ hown'; obtain ⟨hv1, hv2, hr2, hk2, hb2, hold⟩ := boxed_appended (n₀ := w.heap.size) hv (by decide) hrow hW0 (by omega) (Nat.le_refl _) hown' hgrow; have hc1 := hv1.cell; have hf1 := hv1.frozen)
    exact ⟨hk2.from _, ⟨hold _ (by omega) (by omega), hold _ (by omega) (by omega)⟩, ⟨_, hv2, by simpa using hr2, trivial⟩, hB.trans hb2, by have := hb2.size; omega⟩
  case done =>
    rintro D ys W hD rfl ⟨⟨v, hv, hrow, _⟩, hB, _⟩ hK
    have hc := hv.cell
    gi_wp2
    refine ⟨by simp, .inl ⟨_, _, rfl, run_takeDeferred hK, ?_⟩⟩
    exact ⟨_, results_tmp rfl _ _ _, v, rfl, ownsRow_mono (ownsRow_putObj hrow _ hK rfl) (by omega), hB.trans (belowK_b (w := w) (Nat.le_refl _) W D _ _ (by omega) hK rfl rfl)⟩
  case stop =>
    rintro D c pre W _ _ h _
    exact h.elim

theorem pathOf_any (x : Int) (w : World) :
    Calls Try.prog 36 #[.int .i64 x] w fun e W' => ∃ v, e = .returned v ∧ Ints w.heap.size v (path x) W' ∧ Below w.heap.size w W' := callsIn_wide.1 (pathOf_in 6 (by omega) x w)
end Go.Proofs.Ytjilbfohfgalkaa
/- KeysFor of the program: the keys of the nodes from a leaf to the root, rising. -/
namespace Go.Proofs.Ytjilbfohfgalkaa
open Go.RowKit

def keysOn (vs : List Int) (l : Int) : List (Int × Int) := (path l).map fun n => (n, vAt vs (n.toNat - 1))
theorem path_four {l : Int} (h1 : 8 ≤ l) (h2 : l ≤ 15) : (path l).length = 4 ∧ ∀ i (hi : i < (path l).length), 1 ≤ (path l)[i] ∧ (path l)[i] ≤ 15 := by
  have : l = 8 ∨ l = 9 ∨ l = 10 ∨ l = 11 ∨ l = 12 ∨ l = 13 ∨ l = 14 ∨ l = 15 := by omega
  rcases this with rfl | rfl | rfl | rfl | rfl | rfl | rfl | rfl <;> decide
def kfB (ep : Int) (vs : List Int) (ss : List (Int × Int)) (m : Int) : Bool := serverB ep vs ss && (seatOf ss m).isSome
def kfL (ep : Int) (vs : List Int) (ss : List (Int × Int)) (m : Int) : List (Int × Int) := if kfB ep vs ss m = true then (keysOn vs (leafV ss m)).reverse else []
theorem kf_not {ep : Int} {vs : List Int} {ss : List (Int × Int)} {m : Int} (h : kfB ep vs ss m = false) : kfL ep vs ss m = [] := by unfold kfL; rw [h]; rfl
theorem keysOn_len {vs : List Int} {l : Int} (h : 8 ≤ l ∧ l ≤ 15) : (keysOn vs l).length = 4 := by unfold keysOn; rw [List.length_map]; exact (path_four h.1 h.2).1
theorem keysOn_at {vs : List Int} {l : Int} (k : Nat) (hk : k < (path l).length) : (keysOn vs l).take (k + 1) = (keysOn vs l).take k ++ [((path l)[k], vAt vs ((path l)[k].toNat - 1))] := by
  have hk' : k < (keysOn vs l).length := by unfold keysOn; rw [List.length_map]; exact hk
  rw [List.take_succ_eq_append_getElem hk']
  simp [keysOn]
theorem kfL_len (ep : Int) (vs : List Int) (ss : List (Int × Int)) (m : Int) : (kfL ep vs ss m).length ≤ 4 := by
  unfold kfL
  by_cases h : kfB ep vs ss m = true
  · rw [if_pos h, List.length_reverse]
    unfold kfB at h
    simp only [Bool.and_eq_true] at h
    obtain ⟨l, hl⟩ := Option.isSome_iff_exists.1 h.2
    have := seatOf_leaf h.1 hl
    have e : leafV ss m = l := by unfold leafV; rw [hl]; rfl
    rw [e, keysOn_len this]
    exact Nat.le_refl _
  · rw [if_neg h]; simp
theorem none_keys (B : Nat) (w : World) : Keys B (.slice none 0 0) [] w := ⟨by simp [kcells], .inl ⟨rfl, rfl⟩⟩
theorem keys_since {B : Nat} {v : Value} {ks : List (Int × Int)} {W W' : World} (h : Keys B v ks W) (hb : Below W.heap.size W W') : Keys B v ks W' := h.below hb (fun k e => (h.lt k e).2)
theorem cell_key (W : World) (n v : Int) : ∀ j u, [Value.int .i64 n, Value.int .i64 v][j]? = some u → (W.alloc (.cells #[.int .i64 n, .int .i64 v] 36)).cell? ((⟨W.heap.size, 0, none⟩ : Addr).add j) = some u := by
  intro j u hu
  match j with
  | 0 => simp at hu; subst hu; simp [Addr.add]
  | 1 => simp at hu; subst hu; simp [Addr.add]
  | j + 2 => simp at hu
theorem keys_row {W : World} {B n : Nat} {v : Value} {ys : List Value} {xs : List (Int × Int)} (h : W.ownsRow B 36 2 v n ys) (e : ys = kcells xs) (hn : xs.length = n) : ∃ a c, v = .slice a n c ∧ Keys B (.slice a n c) xs W := by
  subst e hn
  obtain ⟨a, c, hv, _, _⟩ := Keys.row (show Keys B v xs W from h)
  subst hv
  exact ⟨a, c, rfl, h⟩

set_option maxRecDepth 100000 in
set_option maxHeartbeats 2000000 in
theorem keysFor_any {B C : Nat} {x y : Value} {vs : List Int} {ss : List (Int × Int)} {w : World} (ep m : Int) (hx : Ints B x vs w) (hy : Seats C y ss w) :
    Calls Try.prog 15 #[svv ep x y, .int .i64 m] w fun e w' => ∃ a c, e = .returned (.tuple #[.slice a (kfL ep vs ss m).length c, .bool (kfB ep vs ss m)]) ∧ Keys w.heap.size (.slice a (kfL ep vs ss m).length c) (kfL ep vs ss m) w' ∧ Below w.heap.size w w' := by
  obtain ⟨i0, hi, hz0, hz1, hz2⟩ := info_parts infoK
  have hB1 := one_below w (svb ep x y)
  obtain ⟨c0, c1, c2⟩ := scell3 w ep x y
  have X1 := hidOf' (hx.since hB1)
  have Y1 := hidOf' (hy.since hB1)
  obtain ⟨ax, cx, hvx, _, _⟩ := hx.row
  obtain ⟨ay, cy, hvy, _, _⟩ := hy.row
  subst hvx hvy
  clear hx hy
  go_enter Try.func15, Try.ntmps15
  go_wp2_with fail
  generalize w.alloc (svb ep (.slice ax vs.length cx) (.slice ay ss.length cy)) = w1 at *
  refine (serverOk_any ep X1.out Y1.out).mono ?_
  rintro e w2 ⟨rfl, b2⟩
  have B2 := hidOf' (more hB1 b2)
  have d0 := cell_since c0 b2
  have d1 := cell_since c1 b2
  have d2 := cell_since c2 b2
  have X2 := hidOf' (X1.out.since b2)
  have Y2 := hidOf' (Y1.out.since b2)
  clear c0 c1 c2 X1 Y1 hB1 b2
  cases hok : serverB ep vs ss with
  | false =>
    have hb : kfB ep vs ss m = false := by simp [kfB, hok]
    have HA := hidOf' (And.intro hb (kf_not hb))
    clear hb
    go_wp2
    obtain ⟨h1, h2⟩ := HA.out
    rw [h1, h2]
    exact bodyPost_ret (v := .tuple #[.slice none 0 0, .bool false]) (by simp [results, Try.results15, go_sem]) rfl ⟨none, 0, rfl, none_keys _ _, B2.out⟩
  | true =>
    go_wp2_with fail
    refine (leafOf_any ep m Y2.out).mono ?_
    rintro e w3 ⟨rfl, b3⟩
    have B3 := hidOf' (more B2.out b3)
    have d0 := cell_since d0 b3
    have d1 := cell_since d1 b3
    have d2 := cell_since d2 b3
    have X3 := hidOf' (X2.out.since b3)
    clear X2 Y2 B2 b3
    cases hse : seatOf ss m with
    | none =>
      have hb : kfB ep vs ss m = false := by simp [kfB, hse]
      have HA := hidOf' (And.intro hb (kf_not hb))
      clear hb
      simp only [Option.isSome_none]
      go_wp2
      obtain ⟨h1, h2⟩ := HA.out
      rw [h1, h2]
      exact bodyPost_ret (v := .tuple #[.slice none 0 0, .bool false]) (by simp [results, Try.results15, go_sem]) rfl ⟨none, 0, rfl, none_keys _ _, B3.out⟩
    | some lf =>
      have hb : kfB ep vs ss m = true := by simp [kfB, hok, hse]
      have hlv : leafV ss m = lf := by unfold leafV; rw [hse]; rfl
      have hlf := seatOf_leaf hok hse
      have HLen := hidOf' (serverB_len hok)
      have HA := hidOf' (And.intro hb (show kfL ep vs ss m = (keysOn vs lf).reverse by unfold kfL; rw [if_pos hb, hlv]))
      obtain ⟨hp4, hpr⟩ := path_four hlf.1 hlf.2
      have HPR := hidOf' hpr
      have HK4 := hidOf' (keysOn_len (vs := vs) hlf)
      clear hpr hb
      simp only [Option.isSome_some]
      rw [hlv]
      clear hlv hse hok
      go_wp2_with fail
      refine (pathOf_any lf _).mono ?_
      rintro e w4 ⟨vp, rfl, p4, b4⟩
      obtain ⟨ap, cp, hvp, _, hprow⟩ := p4.row
      rw [hp4] at hvp
      subst hvp
      have HPW := hidOf' hprow
      have B4 := hidOf' (more B3.out b4)
      have d0 := cell_since d0 b4
      have d1 := cell_since d1 b4
      have d2 := cell_since d2 b4
      have X4 := hidOf' (X3.out.since b4)
      clear X3 B3 b4 p4 hprow
      go_wp2
      go_loopw [8, 25] (fun kvv i wr => ∃ (k : Nat) (a : Option Addr) (c : Nat), kvv = .slice a k c ∧ i = .int .i64 (k : Int) ∧ k ≤ 4 ∧ Hid (Keys w4.heap.size (.slice a k c) ((keysOn vs lf).take k) wr) ∧ Below w4.heap.size w4 wr) (fun _ i _ => 4 - (intOf i).toNat)
      case atStart => exact ⟨0, none, 0, rfl, rfl, by omega, none_keys _ _, Below.refl _ _⟩
      case round =>
        obtain ⟨k, a, c, rfl, rfl, hk, HKs, hB⟩ := hrel
        have hkl : ((keysOn vs lf).take k).length = k := by rw [List.length_take, HK4.out]; omega
        by_cases hlt : k < 4
        · obtain ⟨g, ha, hg, hseg⟩ : ∃ g, ap = some ⟨g, 0, none⟩ ∧ g < w4.heap.size ∧ ISeg g 0 (path lf) w4 := by
            rcases HPW.out with e | e
            · rw [e] at hp4; simp at hp4
            · exact e
          subst ha
          have a1 := hseg k (by omega)
          simp only [Nat.zero_add] at a1
          have e1 := cell_since a1 hB
          have e2 := cell_since d0 hB
          have e3 := cell_since d1 hB
          have e4 := cell_since d2 hB
          have hkp : k < (path lf).length := by omega
          have HT := hidOf' (keysOn_at (vs := vs) k hkp)
          have hbn := HPR.out k hkp
          clear hseg a1
          obtain ⟨j, hj⟩ : ∃ j : Nat, (path lf)[k] = (j : Int) + 1 := ⟨((path lf)[k] - 1).toNat, by omega⟩
          rw [hj] at e1 HT hbn
          have hj15 : j < 15 := by omega
          have hjt : ((j : Int) + 1).toNat - 1 = j := by omega
          rw [hjt] at HT
          clear hj hjt
          go_wp2_with fail
          refine (keyAt_any ep j hj15 HLen.out (X4.out.since hB)).mono ?_
          rintro e w5 ⟨rfl, b5⟩
          have hB5 := hidOf' (hB.trans (b5.mono hB.size))
          have HK5 := hidOf' (keys_since HKs.out b5)
          have hne : ∀ jj, (Value.slice a k c).ownBlock = some jj → w4.heap.size ≤ jj := fun jj e => (HKs.out.lt jj e).1
          have hs5 := b5.size
          have hs4 := hB.size
          have HOwn : Hid ((w5.alloc (.cells #[.int .i64 ((j : Int) + 1), .int .i64 (vAt vs j)] 36)).ownsRow w4.heap.size 36 2 (.slice a k c) k (kcells ((keysOn vs lf).take k))) := by
            have := World.ownsRow.alloc HK5.out (.cells #[.int .i64 ((j : Int) + 1), .int .i64 (vAt vs j)] 36)
            rwa [hkl] at this
          clear b5 hB HKs HK5 e1 e2 e3 e4
          generalize hvj : vAt vs j = vj at *
          go_wp2_with (at_builtin; refine wpList_append_own _ rfl _ _ 24 rfl w4.heap.size 36 i0 (.agg #[.int .i64 0, .int .i64 0]) 2 16 Try.underlying24 hi hz0 hz1 hz2 rfl (by decide) _ _ _ rfl HOwn.out ⟨w5.heap.size, 0, none⟩ 1 1 [.int .i64 ((j : Int) + 1), .int .i64 vj] rfl rfl (cell_key _ _ _) (by simp [Value.oneCell']) (by unfold maxLen; omega) (by omega) (by simp <;> omega) ?_; intro v' w8 hown' hgrow _; obtain ⟨a8, c8, hv', hI'⟩ := keys_row (xs := (keysOn vs lf).take k ++ [((j : Int) + 1, vj)]) hown' (by rw [kcells_append]; rfl) (by simp [hkl]); subst hv'; have HI8 := hidOf' hI'; have HB8 : Hid (Below w4.heap.size w4 w8) := (hB5.out.alloc hB5.out.size _).grown hgrow (by simp <;> omega) (fun k e => by have := hne _ e; omega); clear hown' hI' hgrow hB5)
          go_roundw
          case rel => exact ⟨k + 1, a8, c8, by go_num, by go_num, by omega, (by show Keys _ _ _ _; rw [HT.out]; exact HI8.out), HB8.out⟩
          case measure => simp [intOf] <;> omega
        · obtain rfl : k = 4 := by omega
          have hKs := HKs.out
          rw [List.take_of_length_le (by rw [HK4.out]; exact Nat.le_refl _)] at hKs
          obtain ⟨g, ha⟩ : ∃ g, a = some ⟨g, 0, none⟩ := by
            rcases hKs.form with ⟨e, e'⟩ | ⟨g, cap, e, _⟩
            · cases e
            · injection e with e; exact ⟨g, e⟩
          subst ha
          obtain ⟨k0, k1, k2, k3, hL⟩ : ∃ k0 k1 k2 k3, keysOn vs lf = [k0, k1, k2, k3] := by
            have := HK4.out
            match hq : keysOn vs lf, this with
            | [a, b, c, d], _ => exact ⟨a, b, c, d, rfl⟩
          rw [hL] at hKs
          have HL := hidOf' hL
          have HKs' := hidOf' hKs
          have hgl := (hKs.lt g rfl).1
          clear hKs HKs hL hkl
          go_wp2_with fail
          refine (reverse4_any HKs'.out).mono ?_
          rintro e w6 ⟨rfl, k6, g6⟩
          have HB6 := hidOf' (more B4.out (hB.grown g6 hB.size (fun j e => by cases e; exact hgl)))
          have HK6 := hidOf' k6
          clear k6 g6 HKs'
          go_wp2
          obtain ⟨h1, h2⟩ := HA.out
          have hrev : kfL ep vs ss m = [k3, k2, k1, k0] := by rw [h2, HL.out]; rfl
          rw [h1, hrev]
          exact bodyPost_ret (v := .tuple #[.slice (some ⟨g, 0, none⟩) 4 c, .bool true]) (by simp [results, Try.results15, go_sem]) rfl ⟨some ⟨g, 0, none⟩, c, rfl, HK6.out.mono B4.out.size, HB6.out⟩
end Go.Proofs.Ytjilbfohfgalkaa
/- The contract of PathOf of the model: the way from a node to the root, in new memory. -/
namespace Go.Proofs.Ytjilbfohfgalkaa
open Go.RowKit

set_option maxRecDepth 100000 in
set_option maxHeartbeats 400000 in
theorem specPathOf_any (x : Int) (w : World) :
    Calls Try.prog 58 #[.int .i64 x] w fun e w' => ∃ v, e = .returned v ∧ Ints w.heap.size v (path x) w' ∧ Below w.heap.size w w' := by
  obtain ⟨i0, hi, hz0, hz1, hz2⟩ := info_parts info64
  have hI0 : Ints w.heap.size (.slice (some ⟨w.heap.size, 0, none⟩) 0 0) [] (w.alloc (.cells #[] 2)) := World.ownsRow_lit w #[] 0 (Nat.le_refl _) (by decide) rfl
  by_cases hx : 1 ≤ x ∧ x ≤ 15
  · have hd : decide (1 ≤ x ∧ x ≤ 15) = true := decide_eq_true hx
    have hm0 : Hid (x = ((x.toNat : Nat) : Int)) := show x = _ by omega
    have hp : path x = pathF 5 x.toNat := by unfold path; rw [if_pos hx]
    have hlen := path_len x
    rw [hp] at hlen ⊢
    go_enter Try.func58, Try.ntmps58
    go_wp2_with fail
    refine (l1In_any _ _ _ _).mono ?_
    rintro e w' ⟨rfl, rfl⟩
    rw [hd]
    go_wp2
    go_loopw [0, 3] (fun p v wr => ∃ (pre : List Int) (m : Nat), p = .int .i64 (m : Int) ∧ m ≤ 15 ∧ pathF 5 x.toNat = pre ++ pathF 5 m ∧ Ints w.heap.size v pre wr ∧ Below w.heap.size w wr ∧ w.heap.size ≤ wr.heap.size)
      (fun p _ _ => (intOf p).toNat)
    case atStart => exact ⟨[], x.toNat, by rw [← hm0.out], by omega, rfl, hI0, (Below.refl _ _).alloc (Nat.le_refl _) _, by simp⟩
    case round =>
      obtain ⟨pre, m, rfl, hm, hpre, hI, hB, hsz⟩ := hrel
      by_cases hz : m = 0
      · subst hz
        have e : pre = pathF 5 x.toNat := by rw [hpre]; simp [pathF]
        go_wp2
        go_ret
        exact ⟨_, rfl, by rw [← e]; exact hI, hB⟩
      · have hst := pathF_step m (by omega) hm
        have hpl : pre.length < 4 := by rw [hpre, hst] at hlen; simp at hlen; omega
        have hge : (1 : Int) ≤ (m : Int) := by omega
        have he : pathF 5 x.toNat = pre ++ [(m : Int)] ++ pathF 5 (m / 2) := by rw [hpre, hst]; simp
        have HE : Hid _ := he
        clear he
        clear hpre hst hp hlen
        go_wp2_with (at_builtin; refine wpList_append_own _ rfl _ _ 40 rfl w.heap.size 2 i0 (.int .i64 0) 1 8 Try.underlying40 hi hz0 hz1 hz2 rfl (by decide) _ _ _ rfl (World.ownsRow.alloc hI _) ⟨wr.heap.size, 0, none⟩ 1 1 [.int .i64 (m : Int)] rfl rfl (cell_one_new _ _ _) (by simp [Value.oneCell']) (by unfold maxLen; omega) (by omega) (by simp; omega) ?_; intro v' w2 hown' hgrow _)
        go_roundw
        case rel => exact ⟨pre ++ [(m : Int)], m / 2, by go_num, by omega, HE.out, by unfold Ints; simpa using hown', app_below hI hB hgrow, by have := hgrow.size; simp at this; omega⟩
        case measure => simp [intOf]; omega
  · have hd : decide (1 ≤ x ∧ x ≤ 15) = false := decide_eq_false hx
    have hp : path x = [] := by unfold path; rw [if_neg hx]
    rw [hp]
    go_enter Try.func58, Try.ntmps58
    go_wp2_with fail
    refine (l1In_any _ _ _ _).mono ?_
    rintro e w' ⟨rfl, rfl⟩
    rw [hd]
    go_wp2
    go_ret
    exact ⟨_, rfl, hI0, (Below.refl _ _).alloc (Nat.le_refl _) _⟩
end Go.Proofs.Ytjilbfohfgalkaa
