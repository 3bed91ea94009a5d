/- What the exact laws' helpers on servers do: szServer, toServer, eqServer. -/
import Derived.Test.YtgddobdpibnkeaaPart1
import Derived.BigRegion
import Derived.RegionTactic
import Derived.ChangeAlike
import Derived.Test.YtgddobdpibnkeaaRows
import Derived.WalkKit
import Derived.WalkSpells
import Derived.WalkLawsBesides
import Derived.Deep.QuietTactic
import Derived.BigQuiet
import Derived.Test.YtgddobdpibnkeaaPart0
import Derived.RangeFuncNested
import Derived.RangeFuncBound
import Derived.RangeFuncCalls
import Derived.RangeFuncLeaves
import Derived.RangeFuncBox
import Derived.Shelf.Abstract
import Derived.Shelf.RegionOpen
import Derived.OwnWalkIn
import Derived.TacticsInMore
import Derived.LoopNIn
import Derived.LoopIn
import Derived.Deep.RegionHeld3
import Derived.Deep.AppendLies
import Derived.Laws.AppendOwn
namespace Go.Proofs.Ytgddobdpibnkeaa
open Go.RowKit

theorem hidOf' {p : Prop} (h : p) : Hid p := h
def szV (l : Int) (n m : Nat) : Int := if l - (n : Int) < 0 then -1 else if l - (n : Int) - (m : Int) < 0 then -1 else l - (n : Int) - (m : Int)
set_option maxHeartbeats 1000000 in
theorem szServer_any (ep : Int) (a a' : Option Addr) (n c m c' : Nat) (l : Int) (w : World) (hl : 0 ≤ l) (hl2 : l ≤ 1048576) (hn : n ≤ maxLen) (hm : m ≤ maxLen) :
    Calls Try.prog 62 #[svv ep (.slice a n c) (.slice a' m c'), .int .i64 l] w fun e w' => e = .returned (.int .i64 (szV l n m)) ∧ w' = w.alloc (lsvb ep (.slice a n c) (.slice a' m c')) := by
  by_cases h : l - (n : Int) < 0
  · have hif : (if l - (n : Int) < 0 then (-1 : Int) else l - (n : Int)) = -1 := if_pos h
    have HZ : Hid (szV l n m = -1) := if_pos h
    go_enter Try.func62, Try.ntmps62
    go_wp2_with fail
    refine (szInt64S_any _ _ _ _ _ hl hl2 hn).mono ?_
    rintro e w' ⟨rfl, hww⟩
    subst w'
    rw [hif]
    go_wp2
    go_ret
    exact ⟨by rw [HZ.out]; rfl, rfl⟩
  · have hif : (if l - (n : Int) < 0 then (-1 : Int) else l - (n : Int)) = l - (n : Int) := if_neg h
    by_cases h2 : l - (n : Int) - (m : Int) < 0
    · have hif2 : (if l - (n : Int) - (m : Int) < 0 then (-1 : Int) else l - (n : Int) - (m : Int)) = -1 := if_pos h2
      have HZ : Hid (szV l n m = -1) := by show szV l n m = -1; unfold szV; rw [if_neg h, if_pos h2]
      go_enter Try.func62, Try.ntmps62
      go_wp2_with fail
      refine (szInt64S_any _ _ _ _ _ hl hl2 hn).mono ?_
      rintro e w' ⟨rfl, hww⟩
      subst w'
      rw [hif]
      go_wp2_with fail
      refine (szSeatS_any _ _ _ _ _ (by omega) (by omega) hm).mono ?_
      rintro e w' ⟨rfl, hww⟩
      subst w'
      rw [hif2]
      go_wp2
      go_ret
      exact ⟨by rw [HZ.out]; rfl, rfl⟩
    · have hif2 : (if l - (n : Int) - (m : Int) < 0 then (-1 : Int) else l - (n : Int) - (m : Int)) = l - (n : Int) - (m : Int) := if_neg h2
      have HZ : Hid (szV l n m = l - (n : Int) - (m : Int)) := by show szV l n m = _; unfold szV; rw [if_neg h, if_neg h2]
      go_enter Try.func62, Try.ntmps62
      go_wp2_with fail
      refine (szInt64S_any _ _ _ _ _ hl hl2 hn).mono ?_
      rintro e w' ⟨rfl, hww⟩
      subst w'
      rw [hif]
      go_wp2_with fail
      refine (szSeatS_any _ _ _ _ _ (by omega) (by omega) hm).mono ?_
      rintro e w' ⟨rfl, hww⟩
      subst w'
      rw [hif2]
      go_wp2
      go_ret
      exact ⟨by rw [HZ.out]; rfl, rfl⟩

/-- A server, as an answer: its numbers and its seats lie in memory of their own, apart. -/
def SrvIs (B : Nat) (x y : Value) (vs : List Int) (ss : List (Int × Int)) (W : World) : Prop := Ints B x vs W ∧ Seats B y ss W ∧ ∀ k, x.ownBlock = some k → y.ownBlock ≠ some k
theorem SrvIs.since {B : Nat} {x y : Value} {vs : List Int} {ss : List (Int × Int)} {W W' : World} (h : SrvIs B x y vs ss W) (hb : Below W.heap.size W W') : SrvIs B x y vs ss W' := ⟨h.1.since hb, h.2.1.since hb, h.2.2⟩

set_option maxHeartbeats 2000000 in
theorem toServer_any (ep : Int) (x y : Value) (vs : List Int) (ss : List (Int × Int)) (w : World) (hx : InInts x vs w) (hy : InSeats y ss w) (hn : vs.length ≤ 1048576) (hn2 : ss.length ≤ 1048576) :
    Calls Try.prog 67 #[svv ep x y] w fun e w' => ∃ x' y', e = .returned (svv ep x' y') ∧ SrvIs w.heap.size x' y' vs ss w' ∧ Below w.heap.size w w' := by
  have hB0 : Below w.heap.size w (((w.alloc (lsvb ep x y)).alloc (svb 0 (.slice none 0 0) (.slice none 0 0))).alloc (svb ep (.slice none 0 0) (.slice none 0 0))) := (two_below w _ _).alloc (by simp; omega) _
  have b1 : (((w.alloc (lsvb ep x y)).alloc (svb 0 (.slice none 0 0) (.slice none 0 0))).alloc (svb ep (.slice none 0 0) (.slice none 0 0))).heap[w.heap.size + 1]? = some (svb 0 (.slice none 0 0) (.slice none 0 0)) := by
    rw [Below.heap_alloc _ _ _ (by simp)]
    have := heap_alloc_new (w.alloc (lsvb ep x y)) (svb 0 (.slice none 0 0) (.slice none 0 0))
    simpa using this
  have b2 : (((w.alloc (lsvb ep x y)).alloc (svb 0 (.slice none 0 0) (.slice none 0 0))).alloc (svb ep (.slice none 0 0) (.slice none 0 0))).heap[w.heap.size + 1 + 1]? = some (svb ep (.slice none 0 0) (.slice none 0 0)) := by
    have := heap_alloc_new ((w.alloc (lsvb ep x y)).alloc (svb 0 (.slice none 0 0) (.slice none 0 0))) (svb ep (.slice none 0 0) (.slice none 0 0))
    simpa using this
  have b0 : (((w.alloc (lsvb ep x y)).alloc (svb 0 (.slice none 0 0) (.slice none 0 0))).alloc (svb ep (.slice none 0 0) (.slice none 0 0))).heap[w.heap.size]? = some (lsvb ep x y) := by
    rw [Below.heap_alloc _ _ _ (by simp; omega), Below.heap_alloc _ _ _ (by simp)]
    exact heap_alloc_new w _
  have hs0 : (((w.alloc (lsvb ep x y)).alloc (svb 0 (.slice none 0 0) (.slice none 0 0))).alloc (svb ep (.slice none 0 0) (.slice none 0 0))).heap.size = w.heap.size + 1 + 1 + 1 := by simp
  have HX : Hid (InInts x vs w) := hx
  have HY : Hid (InSeats y ss w) := hy
  obtain ⟨ay, cy, hvy, _⟩ := hy.len
  subst hvy
  clear hx hy
  go_enter Try.func67, Try.ntmps67
  go_wp2_with fail
  generalize ((w.alloc (lsvb ep x (.slice ay ss.length cy))).alloc (svb 0 (.slice none 0 0) (.slice none 0 0))).alloc (svb ep (.slice none 0 0) (.slice none 0 0)) = w0 at hB0 b0 b1 b2 hs0 ⊢
  refine (toInt64S_any x vs w0 (HX.out.below hB0 (Nat.le_refl _)) hn).mono ?_
  rintro e w2 ⟨x', rfl, _, k2, hb2⟩
  have d0 := (hb2.block w.heap.size (by omega)).trans b0
  have d1 := (hb2.block (w.heap.size + 1) (by omega)).trans b1
  have d2 := (hb2.block (w.heap.size + 1 + 1) (by omega)).trans b2
  have hB2 := more hB0 hb2
  have hsz := hb2.size
  have hlt := k2.lt
  have g0 := blk' (grown_set w2 (w.heap.size + 1 + 1) 1 x') d0 (by omega)
  have g1 := blk' (grown_set w2 (w.heap.size + 1 + 1) 1 x') d1 (by omega)
  have g2 := box3_set1 d2 x'
  have hB3 : Below w.heap.size w (w2.setCell ⟨w.heap.size + 1 + 1, 1, none⟩ x') := hB2.setCell (by simp; omega) _
  have K3 : Hid (Ints w0.heap.size x' vs (w2.setCell ⟨w.heap.size + 1 + 1, 1, none⟩ x')) := k2.kept (grown_set _ _ _ _) (fun k e e' => by cases e; have := (hlt _ e').1; omega)
  have hs3 : (w2.setCell ⟨w.heap.size + 1 + 1, 1, none⟩ x').heap.size = w2.heap.size := by simp [World.setCell]
  obtain ⟨⟨p0, p1, p2⟩, f0, f1, f2⟩ := box3 d2
  obtain ⟨⟨q0, q1, q2⟩, e0, e1, e2⟩ := box3 d0
  obtain ⟨a', c', hv', _, _⟩ := k2.row
  clear b0 b1 b2 d0 d1 d2 hb2 hB0 hB2 HX k2
  subst hv'
  go_wp2_with fail
  generalize w2.setCell ⟨w.heap.size + 1 + 1, 1, none⟩ (.slice a' vs.length c') = w3 at *
  clear p0 p1 p2 f0 f1 f2 q0 q1 q2 e0 e1 e2
  refine (toSeatS_any _ ss w3 (HY.out.below hB3 (Nat.le_refl _)) hn2).mono ?_
  rintro e w4 ⟨y', rfl, _, k4, hb4⟩
  have d1 := (hb4.block (w.heap.size + 1) (by omega)).trans g1
  have d2 := (hb4.block (w.heap.size + 1 + 1) (by omega)).trans g2
  have hB4 := more hB3 hb4
  have K4 := K3.out.since hb4
  have hlt4 := k4.lt
  have hap : ∀ k, (Value.slice a' vs.length c').ownBlock = some k → y'.ownBlock ≠ some k := fun k e e' => by have := (K3.out.lt k e).2; have := (hlt4 k e').1; omega
  obtain ⟨⟨p0, p1, p2⟩, f0, f1, f2⟩ := box3 d2
  obtain ⟨⟨q0, q1, q2⟩, e0, e1, e2⟩ := box3 d1
  obtain ⟨a4, c4, hv4, _, _⟩ := k4.row
  generalize hX' : Value.slice a' vs.length c' = X' at *
  have HF : Hid (((((w4.setCell ⟨w.heap.size + 1 + 1, 2, none⟩ y').setCell ⟨w.heap.size + 1, 0, none⟩ (.int .i64 ep)).setCell ⟨w.heap.size + 1, 1, none⟩ X').setCell ⟨w.heap.size + 1, 2, none⟩ y').heap[w.heap.size + 1]? = some (svb ep X' y')) := box3_set2 (box3_set1 (box3_set0 (blk' (grown_set _ _ _ _) d1 (by omega)) _) _) _
  have HB : Hid (Below w.heap.size w ((((w4.setCell ⟨w.heap.size + 1 + 1, 2, none⟩ y').setCell ⟨w.heap.size + 1, 0, none⟩ (.int .i64 ep)).setCell ⟨w.heap.size + 1, 1, none⟩ X').setCell ⟨w.heap.size + 1, 2, none⟩ y')) := (((hB4.setCell (by simp; omega) _).setCell (by simp) _).setCell (by simp) _).setCell (by simp) _
  have HKx : Hid (Ints w.heap.size X' vs ((((w4.setCell ⟨w.heap.size + 1 + 1, 2, none⟩ y').setCell ⟨w.heap.size + 1, 0, none⟩ (.int .i64 ep)).setCell ⟨w.heap.size + 1, 1, none⟩ X').setCell ⟨w.heap.size + 1, 2, none⟩ y')) :=
    ((((K4.mono (by omega)).kept (grown_set _ _ _ _) (fun k e e' => by cases e; have := (hlt _ e').1; omega)).kept (grown_set _ _ _ _) (fun k e e' => by cases e; have := (hlt _ e').1; omega)).kept (grown_set _ _ _ _) (fun k e e' => by cases e; have := (hlt _ e').1; omega)).kept (grown_set _ _ _ _) (fun k e e' => by cases e; have := (hlt _ e').1; omega)
  have HKy : Hid (Seats w.heap.size y' ss ((((w4.setCell ⟨w.heap.size + 1 + 1, 2, none⟩ y').setCell ⟨w.heap.size + 1, 0, none⟩ (.int .i64 ep)).setCell ⟨w.heap.size + 1, 1, none⟩ X').setCell ⟨w.heap.size + 1, 2, none⟩ y')) :=
    ((((k4.mono (by omega)).kept (grown_set _ _ _ _) (fun k e e' => by cases e; have := (hlt4 _ e').1; omega)).kept (grown_set _ _ _ _) (fun k e e' => by cases e; have := (hlt4 _ e').1; omega)).kept (grown_set _ _ _ _) (fun k e e' => by cases e; have := (hlt4 _ e').1; omega)).kept (grown_set _ _ _ _) (fun k e e' => by cases e; have := (hlt4 _ e').1; omega)
  have HA : Hid (∀ k, X'.ownBlock = some k → y'.ownBlock ≠ some k) := hap
  clear d1 d2 hB3 hB4 hlt hlt4 K3 K4 k4 hb4 hap g0 g1 g2
  subst hX' hv4
  go_wp2
  have bF := HF.out
  have gB := HB.out
  have gX := HKx.out
  have gY := HKy.out
  clear HF HB HKx HKy
  generalize (((w4.setCell ⟨w.heap.size + 1 + 1, 2, none⟩ (.slice a4 ss.length c4)).setCell ⟨w.heap.size + 1, 0, none⟩ (.int .i64 ep)).setCell ⟨w.heap.size + 1, 1, none⟩ (.slice a' vs.length c')).setCell ⟨w.heap.size + 1, 2, none⟩ (.slice a4 ss.length c4) = WF at bF gB gX gY ⊢
  obtain ⟨⟨z0, z1, z2⟩, _, _, _⟩ := box3 bF
  exact bodyPost_ret (v := svv ep (.slice a' vs.length c') (.slice a4 ss.length c4)) (by simp [results, Try.results67, go_sem, z0, z1, z2]) rfl ⟨_, _, rfl, ⟨gX, gY, HA.out⟩, gB⟩

def sameS (ep : Int) (vs : List Int) (ss : List (Int × Int)) (ep' : Int) (vs' : List Int) (ss' : List (Int × Int)) : Bool := decide (ep = ep') && (eqI vs vs' && eqL ss ss')
theorem sameS_self (ep : Int) (vs : List Int) (ss : List (Int × Int)) : sameS ep vs ss ep vs ss = true := by simp [sameS, eqI, eqL]

set_option maxHeartbeats 1000000 in
theorem eqServer_any {B C B' C' : Nat} {x y x' y' : Value} {vs vs' : List Int} {ss ss' : List (Int × Int)} {w : World} (ep ep' : Int) (hx : Ints B x vs w) (hy : Seats C y ss w) (hx' : Ints B' x' vs' w) (hy' : Seats C' y' ss' w) :
    Calls Try.prog 73 #[svv ep x y, svv ep' x' y'] w fun e w' => e = .returned (.bool (sameS ep vs ss ep' vs' ss')) ∧ Below w.heap.size w w' := by
  have hB2 := two_below w (svb ep x y) (svb ep' x' y')
  obtain ⟨c0, c1, c2⟩ := scell3 w ep x y
  have d0 := cell_since c0 (one_below _ (svb ep' x' y'))
  have d1 := cell_since c1 (one_below _ (svb ep' x' y'))
  have d2 := cell_since c2 (one_below _ (svb ep' x' y'))
  obtain ⟨p0, p1, p2⟩ := scell3 (w.alloc (svb ep x y)) ep' x' y'
  have HX : Hid (Ints B x vs ((w.alloc (svb ep x y)).alloc (svb ep' x' y'))) := hx.since hB2
  have HY : Hid (Seats C y ss ((w.alloc (svb ep x y)).alloc (svb ep' x' y'))) := hy.since hB2
  have HX' : Hid (Ints B' x' vs' ((w.alloc (svb ep x y)).alloc (svb ep' x' y'))) := hx'.since hB2
  have HY' : Hid (Seats C' y' ss' ((w.alloc (svb ep x y)).alloc (svb ep' x' y'))) := hy'.since hB2
  clear c0 c1 c2 hx hy hx' hy'
  simp only [World.size_alloc] at p0 p1 p2
  by_cases h1 : ep = ep'
  · have h1' : (ep == ep') = true := by simpa using h1
    subst h1
    have HS : Hid (sameS ep vs ss ep vs' ss' = (eqI vs vs' && eqL ss ss')) := by show sameS ep vs ss ep vs' ss' = _; simp [sameS]
    go_enter Try.func73, Try.ntmps73
    go_wp2_with fail
    generalize (w.alloc (svb ep x y)).alloc (svb ep x' y') = w1 at *
    refine (eqInt64S_any HX.out HX'.out).mono ?_
    rintro e w2 ⟨rfl, q, hw2⟩
    have b2 : Below w1.heap.size w1 w2 := by rw [hw2]; exact below_drewN2 (Below.refl _ _) _
    clear hw2
    have d2 := cell_since d2 b2
    have p2 := cell_since p2 b2
    have HB : Hid (Below w.heap.size w w2) := more hB2 b2
    have HY := hidOf' (HY.out.since b2)
    have HY' := hidOf' (HY'.out.since b2)
    cases hq : eqI vs vs' with
    | false =>
      go_wp2
      go_ret
      exact ⟨by rw [HS.out, hq]; rfl, HB.out⟩
    | true =>
      go_wp2_with fail
      refine (eqSeatS_any HY.out HY'.out).mono ?_
      rintro e w3 ⟨rfl, b3⟩
      have HB3 : Hid (Below w.heap.size w w3) := more HB.out b3
      cases hq2 : eqL ss ss' with
      | false =>
        go_wp2
        go_ret
        exact ⟨by rw [HS.out, hq, hq2]; rfl, HB3.out⟩
      | true =>
        go_wp2
        go_ret
        exact ⟨by rw [HS.out, hq, hq2]; rfl, HB3.out⟩
  · have h1' : (ep == ep') = false := by simpa using h1
    have HS : Hid (sameS ep vs ss ep' vs' ss' = false) := by show sameS ep vs ss ep' vs' ss' = _; simp [sameS, h1]
    go_enter Try.func73, Try.ntmps73
    go_wp2
    go_ret
    exact ⟨by rw [HS.out]; rfl, hB2⟩
end Go.Proofs.Ytgddobdpibnkeaa
/- A node's key: l3Key, keyAt, KeyAt of the program and of the model. -/
namespace Go.Proofs.Ytgddobdpibnkeaa
open Go.RowKit

theorem serverB_len {ep : Int} {vs : List Int} {ss : List (Int × Int)} (h : serverB ep vs ss = true) : vs.length = 15 := by
  simp [serverB, versB] at h
  exact h.2.1.1
def atB (ep : Int) (vs : List Int) (ss : List (Int × Int)) (node : Int) : Bool := serverB ep vs ss && decide (1 ≤ node ∧ node ≤ 15)
def atK (ep : Int) (vs : List Int) (ss : List (Int × Int)) (node : Int) : Int × Int := if (serverB ep vs ss && decide (1 ≤ node ∧ node ≤ 15)) = true then (node, vAt vs (node - 1).toNat) else (0, 0)

set_option maxHeartbeats 1000000 in
theorem l3Key_any {B : Nat} {x y : Value} {vs : List Int} {w : World} (ep : Int) (j : Nat) (hj : j < 15) (hl : vs.length = 15) (hx : Ints B x vs w) :
    Calls Try.prog 92 #[svv ep x y, .int .i64 ((j : Int) + 1)] w fun e w' => e = .returned (kv ((j : Int) + 1) (vAt vs j)) ∧ Below w.heap.size w w' := by
  have hB2 := two_below w (svb ep x y) (kb 0 0)
  obtain ⟨a, c, hv, _, hrow⟩ := (hx.since (one_below w (svb ep x y))).row
  subst hv
  rw [hl]
  rw [hl] at hB2
  obtain ⟨g, rfl, hg, hseg⟩ : ∃ g, a = some ⟨g, 0, none⟩ ∧ g < (w.alloc (svb ep (.slice a vs.length c) y)).heap.size ∧ ISeg g 0 vs (w.alloc (svb ep (.slice a vs.length c) y)) := by
    rcases hrow with e | e
    · rw [e] at hl; simp at hl
    · exact e
  rw [hl] at hg hseg
  obtain ⟨c0, c1, c2⟩ := scell3 w ep (.slice (some ⟨g, 0, none⟩) 15 c) y
  have d1 := cell_since c1 (one_below _ (kb 0 0))
  have a1 := hseg j (by omega)
  rw [Nat.zero_add] at a1
  have e1 := cell_since a1 (one_below _ (kb 0 0))
  rw [vAt_get vs j (by omega)]
  generalize vs[j] = z at a1 e1
  clear hx hrow hseg c0 c2
  go_enter Try.func92, Try.ntmps92
  go_wp2
  exact bodyPost_ret (v := kv ((j : Int) + 1) z) (by simp [results, Try.results92, go_sem]) rfl ⟨rfl, two_below w _ _⟩

set_option maxHeartbeats 1000000 in
theorem keyAt_any {B : Nat} {x y : Value} {vs : List Int} {w : World} (ep : Int) (j : Nat) (hj : j < 15) (hl : vs.length = 15) (hx : Ints B x vs w) :
    Calls Try.prog 41 #[svv ep x y, .int .i64 ((j : Int) + 1)] w fun e w' => e = .returned (kv ((j : Int) + 1) (vAt vs j)) ∧ Below w.heap.size w w' := by
  have hB2 := two_below w (svb ep x y) (kb 0 0)
  obtain ⟨a, c, hv, _, hrow⟩ := (hx.since (one_below w (svb ep x y))).row
  subst hv
  rw [hl]
  rw [hl] at hB2
  obtain ⟨g, rfl, hg, hseg⟩ : ∃ g, a = some ⟨g, 0, none⟩ ∧ g < (w.alloc (svb ep (.slice a vs.length c) y)).heap.size ∧ ISeg g 0 vs (w.alloc (svb ep (.slice a vs.length c) y)) := by
    rcases hrow with e | e
    · rw [e] at hl; simp at hl
    · exact e
  rw [hl] at hg hseg
  obtain ⟨c0, c1, c2⟩ := scell3 w ep (.slice (some ⟨g, 0, none⟩) 15 c) y
  have d1 := cell_since c1 (one_below _ (kb 0 0))
  have a1 := hseg j (by omega)
  rw [Nat.zero_add] at a1
  have e1 := cell_since a1 (one_below _ (kb 0 0))
  rw [vAt_get vs j (by omega)]
  generalize vs[j] = z at a1 e1
  clear hx hrow hseg c0 c2
  go_enter Try.func41, Try.ntmps41
  go_wp2
  exact bodyPost_ret (v := kv ((j : Int) + 1) z) (by simp [results, Try.results41, go_sem]) rfl ⟨rfl, two_below w _ _⟩
end Go.Proofs.Ytgddobdpibnkeaa
/- Where a member sits: leafOf of the program, l3Leaf of the model. -/
namespace Go.Proofs.Ytgddobdpibnkeaa
open Go.RowKit

def seatOf (ss : List (Int × Int)) (m : Int) : Option Int := (ss.find? (fun s => decide (s.1 = m))).map Prod.snd
def leafV (ss : List (Int × Int)) (m : Int) : Int := (seatOf ss m).getD 0
theorem kAt_succ (s : Int × Int) (ss : List (Int × Int)) (j : Nat) : kAt (s :: ss) (j + 1) = kAt ss j := by simp [kAt]
theorem seatOf_hit : ∀ (ss : List (Int × Int)) (m : Int) (k : Nat), (∀ j, j < k → (kAt ss j).1 ≠ m) → k < ss.length → (kAt ss k).1 = m → seatOf ss m = some (kAt ss k).2
  | [], _, _, _, h, _ => by simp at h
  | s :: ss, m, 0, _, _, h => by
    have e : kAt (s :: ss) 0 = s := by simp [kAt]
    rw [e] at h ⊢
    simp [seatOf, h]
  | s :: ss, m, k + 1, h1, h2, h3 => by
    have h0 : (kAt (s :: ss) 0).1 ≠ m := h1 0 (by omega)
    have e : kAt (s :: ss) 0 = s := by simp [kAt]
    rw [e] at h0
    rw [kAt_succ] at h3 ⊢
    have := seatOf_hit ss m k (fun j hj => by have := h1 (j + 1) (by omega); rwa [kAt_succ] at this) (by simpa using h2) h3
    rw [← this]
    simp [seatOf, h0]
theorem seatOf_none : ∀ (ss : List (Int × Int)) (m : Int), (∀ j, j < ss.length → (kAt ss j).1 ≠ m) → seatOf ss m = none
  | [], _, _ => rfl
  | s :: ss, m, h => by
    have h0 : (kAt (s :: ss) 0).1 ≠ m := h 0 (by simp)
    have e : kAt (s :: ss) 0 = s := by simp [kAt]
    rw [e] at h0
    have := seatOf_none ss m (fun j hj => by have := h (j + 1) (by simpa using hj); rwa [kAt_succ] at this)
    rw [← this]
    simp [seatOf, h0]
theorem seatOf_mem {ss : List (Int × Int)} {m l : Int} (h : seatOf ss m = some l) : ∃ k, k < ss.length ∧ (kAt ss k).2 = l := by
  unfold seatOf at h
  obtain ⟨s, hs, rfl⟩ := Option.map_eq_some_iff.1 h
  obtain ⟨k, hk, e⟩ := List.getElem_of_mem (List.mem_of_find?_eq_some hs)
  exact ⟨k, hk, by rw [kAt_get ss k hk, e]⟩
theorem seatOf_leaf {ep : Int} {vs : List Int} {ss : List (Int × Int)} {m l : Int} (h : serverB ep vs ss = true) (hs : seatOf ss m = some l) : 8 ≤ l ∧ l ≤ 15 := by
  obtain ⟨k, hk, rfl⟩ := seatOf_mem hs
  unfold serverB seatsB seatsTo at h
  simp only [Bool.and_eq_true, List.all_eq_true] at h
  have := h.2.2.2 k (List.mem_range.2 hk)
  unfold seatAt at this
  simp only [Bool.and_eq_true, decide_eq_true_eq] at this
  exact this.2.1

set_option maxHeartbeats 1000000 in
theorem leafOf_any {C : Nat} {x y : Value} {ss : List (Int × Int)} {w : World} (ep m : Int) (hy : Seats C y ss w) :
    Calls Try.prog 40 #[svv ep x y, .int .i64 m] w fun e w' => e = .returned (.tuple #[.int .i64 (leafV ss m), .bool (seatOf ss m).isSome]) ∧ Below w.heap.size w w' := by
  have hB1 := one_below w (svb ep x y)
  obtain ⟨a, c, hv, hm, hrow⟩ := (hy.since hB1).row
  subst hv
  obtain ⟨c0, c1, c2⟩ := scell3 w ep x (.slice a ss.length c)
  have HR := hidOf' hrow
  clear hrow hy
  unfold maxLen at hm
  generalize hn : ss.length = n at *
  go_enter Try.func40, Try.ntmps40
  go_wp2
  generalize w.alloc (svb ep x (.slice a n c)) = w1 at *
  go_loopw [11] (fun i wr => ∃ k : Nat, i = .int .i64 (k : Int) ∧ k ≤ n ∧ Hid (∀ j, j < k → (kAt ss j).1 ≠ m) ∧ Below w1.heap.size w1 wr) (fun i _ => n - (intOf i).toNat)
  case atStart => exact ⟨0, rfl, Nat.zero_le _, fun j hj => absurd hj (Nat.not_lt_zero _), Below.refl _ _⟩
  case round =>
    obtain ⟨k, rfl, hkn, HP, hB⟩ := hrel
    by_cases hlt : k < n
    · have hlk : k < ss.length := by omega
      obtain ⟨g, ha, hg, hseg⟩ : ∃ g, a = some ⟨g, 0, none⟩ ∧ g < w1.heap.size ∧ KSeg g 0 ss w1 := by
        rcases HR.out with e | e
        · rw [e] at hlk; simp at hlk
        · exact e
      subst ha
      obtain ⟨a1, a2⟩ := hseg k hlk
      simp only [Nat.zero_add] at a1 a2
      have e1 := cell_since a1 hB
      have e2 := cell_since a2 hB
      have HK := hidOf' (kAt_get ss k hlk)
      clear hseg a1 a2
      obtain ⟨p, q, hpq⟩ : ∃ p q, ss[k] = (p, q) := ⟨_, _, rfl⟩
      rw [hpq] at e1 e2 HK
      clear hpq
      have HB' := hidOf' (hB.alloc hB.size (sb p q))
      by_cases hp : p = m
      · have hp' : (p == m) = true := by simpa using hp
        have HH := hidOf' (seatOf_hit ss m k HP.out hlk (by rw [HK.out]; exact hp))
        subst hp
        go_wp2
        have h1 := HH.out
        rw [HK.out] at h1
        exact bodyPost_ret (v := .tuple #[.int .i64 q, .bool true]) (by simp [results, Try.results40, go_sem]) rfl ⟨by unfold leafV; rw [h1]; rfl, more hB1 HB'.out⟩
      · have hp' : (p == m) = false := by simpa using hp
        have HN := hidOf' (show ∀ j, j < k + 1 → (kAt ss j).1 ≠ m from fun j hj => by
          by_cases e : j < k
          · exact HP.out j e
          · obtain rfl : j = k := by omega
            rw [HK.out]; exact hp)
        go_wp2
        go_roundw
        case rel => exact ⟨k + 1, by go_num, by omega, HN.out, HB'.out⟩
        case measure => simp [intOf] <;> omega
    · obtain rfl : k = n := by omega
      have HN := hidOf' (seatOf_none ss m (fun j hj => HP.out j (by omega)))
      go_wp2
      exact bodyPost_ret (v := .tuple #[.int .i64 0, .bool false]) (by simp [results, Try.results40, go_sem]) rfl ⟨by unfold leafV; rw [HN.out]; rfl, more hB1 hB⟩

set_option maxHeartbeats 1000000 in
theorem l3Leaf_any {C : Nat} {x y : Value} {ss : List (Int × Int)} {w : World} (ep m : Int) (hy : Seats C y ss w) :
    Calls Try.prog 44 #[svv ep x y, .int .i64 m] w fun e w' => e = .returned (.int .i64 (leafV ss m)) ∧ Below w.heap.size w w' := by
  have hB1 := one_below w (svb ep x y)
  obtain ⟨a, c, hv, hm, hrow⟩ := (hy.since hB1).row
  subst hv
  obtain ⟨c0, c1, c2⟩ := scell3 w ep x (.slice a ss.length c)
  have HR := hidOf' hrow
  clear hrow hy
  unfold maxLen at hm
  generalize hn : ss.length = n at *
  go_enter Try.func44, Try.ntmps44
  go_wp2
  generalize w.alloc (svb ep x (.slice a n c)) = w1 at *
  go_loopw [5] (fun i wr => ∃ k : Nat, i = .int .i64 (k : Int) ∧ k ≤ n ∧ Hid (∀ j, j < k → (kAt ss j).1 ≠ m) ∧ wr = w1) (fun i _ => n - (intOf i).toNat)
  case atStart => exact ⟨0, rfl, Nat.zero_le _, fun j hj => absurd hj (Nat.not_lt_zero _), rfl⟩
  case round =>
    obtain ⟨k, rfl, hkn, HP, hwr⟩ := hrel
    subst hwr
    by_cases hlt : k < n
    · have hlk : k < ss.length := by omega
      obtain ⟨g, ha, hg, hseg⟩ : ∃ g, a = some ⟨g, 0, none⟩ ∧ g < wr.heap.size ∧ KSeg g 0 ss wr := by
        rcases HR.out with e | e
        · rw [e] at hlk; simp at hlk
        · exact e
      subst ha
      obtain ⟨e1, e2⟩ := hseg k hlk
      simp only [Nat.zero_add] at e1 e2
      have HK := hidOf' (kAt_get ss k hlk)
      clear hseg
      obtain ⟨p, q, hpq⟩ : ∃ p q, ss[k] = (p, q) := ⟨_, _, rfl⟩
      rw [hpq] at e1 e2 HK
      clear hpq
      by_cases hp : p = m
      · have hp' : (p == m) = true := by simpa using hp
        have HH := hidOf' (seatOf_hit ss m k HP.out hlk (by rw [HK.out]; exact hp))
        subst hp
        go_wp2
        go_ret
        have h1 := HH.out
        rw [HK.out] at h1
        exact ⟨by unfold leafV; rw [h1]; rfl, hB1⟩
      · have hp' : (p == m) = false := by simpa using hp
        have HN := hidOf' (show ∀ j, j < k + 1 → (kAt ss j).1 ≠ m from fun j hj => by
          by_cases e : j < k
          · exact HP.out j e
          · obtain rfl : j = k := by omega
            rw [HK.out]; exact hp)
        go_wp2
        go_roundw
        case rel => exact ⟨k + 1, by go_num, by omega, HN.out, trivial⟩
        case measure => simp [intOf] <;> omega
    · obtain rfl : k = n := by omega
      have HN := hidOf' (seatOf_none ss m (fun j hj => HP.out j (by omega)))
      go_wp2
      go_ret
      exact ⟨by unfold leafV; rw [HN.out]; rfl, hB1⟩
end Go.Proofs.Ytgddobdpibnkeaa
/- Four keys turned round in place: slices.Reverse. -/
namespace Go.Proofs.Ytgddobdpibnkeaa
open Go.RowKit

theorem Keys.cells4 {B g cap : Nat} {ks : List (Int × Int)} {W : World} (h : Keys B (.slice (some ⟨g, 0, none⟩) 4 cap) ks W) : KSeg g 0 ks W ∧ ∀ o, W.frozen? ⟨g, o, none⟩ = false := by
  rcases h.form with ⟨e, _⟩ | ⟨g', cap', e, _, _, _, _, h3, h4⟩
  · cases e
  · injection e with e
    injection e with e
    injection e with e
    subst e
    exact ⟨h3, h4⟩
theorem four_cells {B g cap : Nat} {a b c d : Int × Int} {W : World} (h : Keys B (.slice (some ⟨g, 0, none⟩) 4 cap) [a, b, c, d] W) :
    (W.cell? ⟨g, 0, none⟩ = some (.int .i64 a.1) ∧ W.cell? ⟨g, 1, none⟩ = some (.int .i64 a.2)) ∧ (W.cell? ⟨g, 2, none⟩ = some (.int .i64 b.1) ∧ W.cell? ⟨g, 3, none⟩ = some (.int .i64 b.2)) ∧ (W.cell? ⟨g, 4, none⟩ = some (.int .i64 c.1) ∧ W.cell? ⟨g, 5, none⟩ = some (.int .i64 c.2)) ∧ (W.cell? ⟨g, 6, none⟩ = some (.int .i64 d.1) ∧ W.cell? ⟨g, 7, none⟩ = some (.int .i64 d.2)) := by
  obtain ⟨hs, _⟩ := h.cells4
  have h0 := hs 0 (by simp)
  have h1 := hs 1 (by simp)
  have h2 := hs 2 (by simp)
  have h3 := hs 3 (by simp)
  exact ⟨h0, h1, h2, h3⟩

set_option maxRecDepth 100000 in
set_option maxHeartbeats 4000000 in
theorem reverse4_any {B g cap : Nat} {a b c d : Int × Int} {w : World} (h : Keys B (.slice (some ⟨g, 0, none⟩) 4 cap) [a, b, c, d] w) :
    Calls Try.prog 42 #[.slice (some ⟨g, 0, none⟩) 4 cap] w fun e w' => e = .returned (.tuple #[]) ∧ Keys B (.slice (some ⟨g, 0, none⟩) 4 cap) [d, c, b, a] w' ∧ w.grownBy w' (some g) := by
  obtain ⟨a1, a2⟩ := a
  obtain ⟨b1, b2⟩ := b
  obtain ⟨c1, c2⟩ := c
  obtain ⟨d1, d2⟩ := d
  obtain ⟨⟨t0, t1⟩, ⟨t2, t3⟩, ⟨t4, t5⟩, ⟨t6, t7⟩⟩ := four_cells h
  obtain ⟨_, hf⟩ := h.cells4
  have f0 := hf 0
  have f1 := hf 1
  have f6 := hf 6
  have f7 := hf 7
  obtain ⟨S1, G1⟩ := h.stored rfl 0 (by simp) d1 d2
  obtain ⟨S2, G2⟩ := S1.stored rfl 3 (by simp) a1 a2
  have HS : Hid (Keys B (.slice (some ⟨g, 0, none⟩) 4 cap) [(d1, d2), (b1, b2), (c1, c2), (a1, a2)] ((((w.setCell ⟨g, 0, none⟩ (.int .i64 d1)).setCell ⟨g, 1, none⟩ (.int .i64 d2)).setCell ⟨g, 6, none⟩ (.int .i64 a1)).setCell ⟨g, 7, none⟩ (.int .i64 a2))) := S2
  have HG : Hid (w.grownBy ((((w.setCell ⟨g, 0, none⟩ (.int .i64 d1)).setCell ⟨g, 1, none⟩ (.int .i64 d2)).setCell ⟨g, 6, none⟩ (.int .i64 a1)).setCell ⟨g, 7, none⟩ (.int .i64 a2)) (some g)) := G1.trans G2
  clear S1 S2 G1 G2 hf h
  simp only at t0 t1 t2 t3 t4 t5 t6 t7
  go_enter Try.func42, Try.ntmps42
  go_wp2
  refine wp_loop_rounds 3 ?_
  rw [rounds_succ]
  go_wp2
  go_region
  go_wp2
  have hS := HS.out
  have hG := HG.out
  clear HS HG t0 t1 t2 t3 t4 t5 t6 t7 f0 f1 f6 f7
  have hS1 : Keys B (.slice (some ⟨g, 0, none⟩) 4 cap) [(d1, d2), (b1, b2), (c1, c2), (a1, a2)] ((((w.setCell ⟨g, 0, none⟩ (.int .i64 d1)).setCell ⟨g, 1, none⟩ (.int .i64 d2)).setCell ⟨g, 6, none⟩ (.int .i64 a1)).setCell ⟨g, 7, none⟩ (.int .i64 a2)).drew := hS
  have hG1 : w.grownBy ((((w.setCell ⟨g, 0, none⟩ (.int .i64 d1)).setCell ⟨g, 1, none⟩ (.int .i64 d2)).setCell ⟨g, 6, none⟩ (.int .i64 a1)).setCell ⟨g, 7, none⟩ (.int .i64 a2)).drew (some g) := hG.trans ⟨rfl, rfl, rfl, Nat.le_refl _, fun _ _ _ => rfl⟩
  generalize ((((w.setCell ⟨g, 0, none⟩ (.int .i64 d1)).setCell ⟨g, 1, none⟩ (.int .i64 d2)).setCell ⟨g, 6, none⟩ (.int .i64 a1)).setCell ⟨g, 7, none⟩ (.int .i64 a2)).drew = w1 at *
  clear hS hG
  obtain ⟨⟨t0, t1⟩, ⟨t2, t3⟩, ⟨t4, t5⟩, ⟨t6, t7⟩⟩ := four_cells hS1
  obtain ⟨_, hf⟩ := hS1.cells4
  have f2 := hf 2
  have f3 := hf 3
  have f4 := hf 4
  have f5 := hf 5
  obtain ⟨S1, G1⟩ := hS1.stored rfl 1 (by simp) c1 c2
  obtain ⟨S2, G2⟩ := S1.stored rfl 2 (by simp) b1 b2
  have HS : Hid (Keys B (.slice (some ⟨g, 0, none⟩) 4 cap) [(d1, d2), (c1, c2), (b1, b2), (a1, a2)] ((((w1.setCell ⟨g, 2, none⟩ (.int .i64 c1)).setCell ⟨g, 3, none⟩ (.int .i64 c2)).setCell ⟨g, 4, none⟩ (.int .i64 b1)).setCell ⟨g, 5, none⟩ (.int .i64 b2))) := S2
  have HG : Hid (w.grownBy ((((w1.setCell ⟨g, 2, none⟩ (.int .i64 c1)).setCell ⟨g, 3, none⟩ (.int .i64 c2)).setCell ⟨g, 4, none⟩ (.int .i64 b1)).setCell ⟨g, 5, none⟩ (.int .i64 b2)) (some g)) := hG1.trans (G1.trans G2)
  clear S1 S2 G1 G2 hf hS1 hG1
  simp only at t0 t1 t2 t3 t4 t5 t6 t7
  rw [rounds_succ]
  go_wp2
  go_region
  go_wp2
  have hS := HS.out
  have hG := HG.out
  clear HS HG t0 t1 t2 t3 t4 t5 t6 t7 f2 f3 f4 f5
  have hS1 : Keys B (.slice (some ⟨g, 0, none⟩) 4 cap) [(d1, d2), (c1, c2), (b1, b2), (a1, a2)] ((((w1.setCell ⟨g, 2, none⟩ (.int .i64 c1)).setCell ⟨g, 3, none⟩ (.int .i64 c2)).setCell ⟨g, 4, none⟩ (.int .i64 b1)).setCell ⟨g, 5, none⟩ (.int .i64 b2)).drew := hS
  have hG1 : w.grownBy ((((w1.setCell ⟨g, 2, none⟩ (.int .i64 c1)).setCell ⟨g, 3, none⟩ (.int .i64 c2)).setCell ⟨g, 4, none⟩ (.int .i64 b1)).setCell ⟨g, 5, none⟩ (.int .i64 b2)).drew (some g) := hG.trans ⟨rfl, rfl, rfl, Nat.le_refl _, fun _ _ _ => rfl⟩
  generalize ((((w1.setCell ⟨g, 2, none⟩ (.int .i64 c1)).setCell ⟨g, 3, none⟩ (.int .i64 c2)).setCell ⟨g, 4, none⟩ (.int .i64 b1)).setCell ⟨g, 5, none⟩ (.int .i64 b2)).drew = w2 at *
  clear hS hG
  rw [rounds_succ]
  go_wp2
  go_end0
  exact ⟨rfl, hS1, hG1⟩
end Go.Proofs.Ytgddobdpibnkeaa
/- Contracts of the program's tree of parents: newTree, isNode. -/
namespace Go.Proofs.Ytgddobdpibnkeaa
open Go.RowKit

abbrev treeCells : Array Value := #[.int .i64 0, .int .i64 0, .int .i64 1, .int .i64 1, .int .i64 2, .int .i64 2, .int .i64 3, .int .i64 3, .int .i64 4, .int .i64 4, .int .i64 5, .int .i64 5, .int .i64 6, .int .i64 6, .int .i64 7, .int .i64 7]
abbrev treeObj : Obj := .cells treeCells 93

def par (k : Nat) : Int := if k < 2 then 0 else (k : Int) / 2
theorem info64 : (Try.prog.info? 2).map (fun i => (i.zero, i.size, i.bytes)) = some (some (.int .i64 0), 1, 8) := by kernel_rfl
theorem l1In_any (n lo hi : Int) (w : World) :
    Calls Try.prog 90 #[.int .i64 n, .int .i64 lo, .int .i64 hi] w fun e w' => e = .returned (.bool (decide (lo ≤ n ∧ n ≤ hi))) ∧ w' = w := by
  by_cases h1 : lo ≤ n
  · by_cases h2 : n ≤ hi
    · rw [decide_eq_true ⟨h1, h2⟩]
      go_enter Try.func90, Try.ntmps90
      go_wp2
      go_ret
      exact ⟨by simp, rfl⟩
    · rw [decide_eq_false (fun h => h2 h.2)]
      go_enter Try.func90, Try.ntmps90
      go_wp2
      go_ret
      exact ⟨by simp, rfl⟩
  · rw [decide_eq_false (fun h => h1 h.1)]
    go_enter Try.func90, Try.ntmps90
    go_wp2
    go_ret
    exact ⟨rfl, rfl⟩

theorem isNode_any (n : Int) (w : World) :
    Calls Try.prog 46 #[.int .i64 n] w fun e w' => e = .returned (.bool (decide (1 ≤ n ∧ n ≤ 15))) ∧ w' = w := by
  by_cases h1 : 1 ≤ n
  · by_cases h2 : n ≤ 15
    · rw [decide_eq_true ⟨h1, h2⟩]
      go_enter Try.func46, Try.ntmps46
      go_wp2
      go_ret
      exact ⟨by simp, rfl⟩
    · rw [decide_eq_false (fun h => h2 h.2)]
      go_enter Try.func46, Try.ntmps46
      go_wp2
      go_ret
      exact ⟨by simp, rfl⟩
  · rw [decide_eq_false (fun h => h1 h.1)]
    go_enter Try.func46, Try.ntmps46
    go_wp2
    go_ret
    exact ⟨rfl, rfl⟩

set_option maxHeartbeats 1000000 in
theorem newTree_any (w : World) :
    Calls Try.prog 47 #[] w fun e w' => e = .returned (.agg treeCells) ∧ w' = (w.alloc treeObj).alloc treeObj := by
  go_enter Try.func47, Try.ntmps47
  go_wp2
  refine wp_loop_rounds 15 ?_
  repeat any_goals (rw [rounds_succ]; go_wp2)
  exact bodyPost_ret (v := .agg treeCells) (by simp [results, Try.results47, go_sem]) rfl ⟨rfl, rfl⟩
end Go.Proofs.Ytgddobdpibnkeaa
/- Contracts of the walk up the tree, by a range over a function: PathOf and isOnPath of the program, PathOf of the model. -/
namespace Go.Proofs.Ytgddobdpibnkeaa
open Go.RowKit Go.Shelf
attribute [local go_sem] Oper.semAt_some

/-- The way from m to the root; none from 0 on. -/
def pathF : Nat → Nat → List Int
  | 0, _ => []
  | f + 1, m => if m = 0 then [] else (m : Int) :: pathF f (m / 2)
def path (n : Int) : List Int := if 1 ≤ n ∧ n ≤ 15 then pathF 5 n.toNat else []
theorem pathF_step (m : Nat) (h0 : 0 < m) (h1 : m ≤ 15) : pathF 5 m = (m : Int) :: pathF 5 (m / 2) := by
  have : m = 1 ∨ m = 2 ∨ m = 3 ∨ m = 4 ∨ m = 5 ∨ m = 6 ∨ m = 7 ∨ m = 8 ∨ m = 9 ∨ m = 10 ∨ m = 11 ∨ m = 12 ∨ m = 13 ∨ m = 14 ∨ m = 15 := by omega
  rcases this with rfl | rfl | rfl | rfl | rfl | rfl | rfl | rfl | rfl | rfl | rfl | rfl | rfl | rfl | rfl <;> decide
theorem pathF_len (m : Nat) (h1 : m ≤ 15) : (pathF 5 m).length ≤ 4 := by
  have : m = 0 ∨ m = 1 ∨ m = 2 ∨ m = 3 ∨ m = 4 ∨ m = 5 ∨ m = 6 ∨ m = 7 ∨ m = 8 ∨ m = 9 ∨ m = 10 ∨ m = 11 ∨ m = 12 ∨ m = 13 ∨ m = 14 ∨ m = 15 := by omega
  rcases this with rfl | rfl | rfl | rfl | rfl | rfl | rfl | rfl | rfl | rfl | rfl | rfl | rfl | rfl | rfl | rfl <;> decide
theorem path_len (n : Int) : (path n).length ≤ 4 := by
  unfold path
  split
  · exact pathF_len _ (by omega)
  · simp
theorem par_half (m : Nat) (h0 : 0 < m) : par m = ((m / 2 : Nat) : Int) := by
  unfold par
  split
  · obtain rfl : m = 1 := by omega
    rfl
  · omega

theorem tree_cell {W : World} {b : Nat} (h : W.heap[b]? = some treeObj) (m : Nat) (hm : m < 16) : W.cell? ⟨b, m, none⟩ = some (.int .i64 (par m)) := by
  have : m = 0 ∨ m = 1 ∨ m = 2 ∨ m = 3 ∨ m = 4 ∨ m = 5 ∨ m = 6 ∨ m = 7 ∨ m = 8 ∨ m = 9 ∨ m = 10 ∨ m = 11 ∨ m = 12 ∨ m = 13 ∨ m = 14 ∨ m = 15 := by omega
  rcases this with rfl | rfl | rfl | rfl | rfl | rfl | rfl | rfl | rfl | rfl | rfl | rfl | rfl | rfl | rfl | rfl <;> simp [World.cell?, h, par]

/-- What the iterator reads: the node's box and the tree's. -/
def KpT (bn bt : Nat) (A B : World) : Prop := B.heap[bn]? = A.heap[bn]? ∧ B.heap[bt]? = A.heap[bt]?
theorem KpT.trans {bn bt : Nat} {A B C : World} (h : KpT bn bt A B) (k : KpT bn bt B C) : KpT bn bt A C := ⟨k.1.trans h.1, k.2.trans h.2⟩
theorem KpT.book {bn bt : Nat} {w : World} (hn : bn < w.heap.size) (ht : bt < w.heap.size) (W : World) (l : Nat) (o o' : Obj) (hl : w.heap.size ≤ l) (h : W.heap[l]? = some o) (_ : o.isCells = false) (_ : o.isWalk = false) : KpT bn bt W (W.putObj l o') := by
  have hW := (Array.getElem?_eq_some_iff.1 h).1
  have hg := grownBy_putObj' W l o'
  exact ⟨hg.block bn (by omega) (by simp; omega), hg.block bt (by omega) (by simp; omega)⟩

set_option maxHeartbeats 1000000 in
theorem up_any (n : Int) (w : World) :
    Calls Try.prog 48 #[.agg treeCells, .int .i64 n] w fun e w' => e = .returned (.func (.func 93) #[] #[.pointer (some ⟨w.heap.size + 1, 0, none⟩), .pointer (some ⟨w.heap.size, 0, none⟩)]) ∧ w' = (w.alloc treeObj).alloc (.cells #[.int .i64 n] 2) := by
  have hmf : ∀ (fn : Fn) (first cap : Array Value) (w : World), (Instr.makeFunc fn first cap).run Try.prog w = .ok (.func fn first cap) w := fun _ _ _ _ => rfl
  go_enter Try.func48, Try.ntmps48
  go_wp2
  go_ret
  exact ⟨rfl, rfl⟩

set_option maxRecDepth 100000 in
set_option maxHeartbeats 1000000 in
theorem up1_in (n : Nat) (hn : 2 ≤ n) (l bn bt : Nat) (x : Int) (J Jx : List Int → World → Prop)
    (hY : ∀ pre y W, J pre W → pre.length < (path x).length → YieldAt Fence.wide (n - 1) Try.prog l #[.int .i64 y] W fun e W' =>
      (e = .returned (.bool true) ∧ J (pre ++ [y]) W' ∧ KpT bn bt W W') ∨ (e = .returned (.bool false) ∧ Jx (pre ++ [y]) W'))
    (W : World) (hbn : W.heap[bn]? = some (.cells #[.int .i64 x] 2)) (hbt : W.heap[bt]? = some treeObj) (h0 : J [] W) :
    CallsIn Fence.wide n Try.prog 93 #[.func (.yield l) #[] #[], .pointer (some ⟨bn, 0, none⟩), .pointer (some ⟨bt, 0, none⟩)] W fun e W' => (∃ v, e = .returned v) ∧
      ((∃ ys, ys = path x ∧ J ys W') ∨ (∃ pre, pre <+: path x ∧ Jx pre W')) := by
  have hf1 : Fence.wide.fn 93 := trivial
  have hf2 : Fence.wide.fn 46 := trivial
  have hcn : W.cell? ⟨bn, 0, none⟩ = some (.int .i64 x) := by simp [World.cell?, hbn]
  refine callsIn_of_wp Try.func93 rfl hf1 ?_ rfl
  simp only [Try.ntmps93, List.size_toArray, List.length_cons, List.length_nil, Nat.reduceAdd, Nat.reduceSub, Array.replicate_succ, Array.replicate_zero, List.push_toArray, List.append_toArray, List.nil_append, List.cons_append]
  by_cases hx : 1 ≤ x ∧ x ≤ 15
  · have hd : decide (1 ≤ x ∧ x ≤ 15) = true := decide_eq_true hx
    have hm0 : Hid (x = ((x.toNat : Nat) : Int)) := show x = _ by omega
    have hp : path x = pathF 5 x.toNat := by unfold path; rw [if_pos hx]
    rw [hp] at hY ⊢
    gi_wp2_with fail
    refine ⟨fun _ => (by omega), ?_⟩
    refine (callsIn_wide.2 (isNode_any _ _)).mono ?_
    rintro e w' ⟨rfl, rfl⟩
    rw [hd]
    gi_wp2
    gi_loopw [4] (fun p wr => ∃ (pre : List Int) (m : Nat), p = .int .i64 (m : Int) ∧ m ≤ 15 ∧ pathF 5 x.toNat = pre ++ pathF 5 m ∧ wr.heap[bt]? = some treeObj ∧ J pre wr)
      (fun p _ => (intOf p).toNat)
    case atStart => exact ⟨[], x.toNat, by rw [← hm0.out], by omega, rfl, hbt, h0⟩
    case round =>
      obtain ⟨pre, m, rfl, hm, hpre, hT, hJ⟩ := hrel
      by_cases hz : m = 0
      · subst hz
        gi_wp2
        go_end0
        exact ⟨⟨_, rfl⟩, .inl ⟨pre, by rw [hpre]; simp [pathF], hJ⟩⟩
      · have hst := pathF_step m (by omega) hm
        have hz' : ((m : Int) == 0) = false := by simp; omega
        obtain ⟨fn, tmps, assign, body, hy, hR⟩ := hY pre m wr hJ (by rw [hpre, hst]; simp)
        gi_wp2
        refine ⟨fun _ => (by omega), ?_⟩
        refine hR.mono ?_
        rintro e W3 (⟨rfl, hJ3, hk3⟩ | ⟨rfl, hJx3⟩)
        · have hT3 : W3.heap[bt]? = some treeObj := hk3.2.trans hT
          have hc3 := tree_cell hT3 m (by omega)
          rw [par_half m (by omega)] at hc3
          gi_wp2
          go_roundw
          case rel => exact ⟨pre ++ [(m : Int)], m / 2, by rfl, by omega, by rw [hpre, hst]; simp, hT3, hJ3⟩
          case measure => simp [intOf]; omega
        · gi_wp2
          refine bodyPost_ret (results_none rfl _ _ _) rfl ?_
          exact ⟨⟨_, rfl⟩, .inr ⟨pre ++ [(m : Int)], ⟨pathF 5 (m / 2), by rw [hpre, hst]; simp⟩, hJx3⟩⟩
  · have hd : decide (1 ≤ x ∧ x ≤ 15) = false := decide_eq_false hx
    have hp : path x = [] := by unfold path; rw [if_neg hx]
    gi_wp2_with fail
    refine ⟨fun _ => (by omega), ?_⟩
    refine (callsIn_wide.2 (isNode_any _ _)).mono ?_
    rintro e w' ⟨rfl, rfl⟩
    rw [hd]
    gi_wp2
    refine bodyPost_ret (results_none rfl _ _ _) rfl ?_
    exact ⟨⟨_, rfl⟩, .inl ⟨[], hp.symm, h0⟩⟩

theorem up1_stops (n : Nat) (hn : 2 ≤ n) (bn bt : Nat) (x : Int) (w : World) (hbn : w.heap[bn]? = some (.cells #[.int .i64 x] 2)) (hbt : w.heap[bt]? = some treeObj) :
    SeqStopsK Fence.wide n Try.prog 93 #[.pointer (some ⟨bn, 0, none⟩), .pointer (some ⟨bt, 0, none⟩)] (fun y : Int => #[Value.int .i64 y]) (KpT bn bt) (fun ys => ys = path x) (fun pre => pre <+: path x) (path x).length w := fun l J Jx W hW _ _ hY h0 =>
  up1_in n hn l bn bt x J Jx hY W ((hW.block bn (Array.getElem?_eq_some_iff.1 hbn).1).trans hbn) ((hW.block bt (Array.getElem?_eq_some_iff.1 hbt).1).trans hbt) h0

theorem ownsRow_mono {W : World} {b b' : Nat} {e : TypeId} {s n : Nat} {v : Value} {xs : List Value} (h : W.ownsRow b e s v n xs) (hb : b' ≤ b) : W.ownsRow b' e s v n xs := by
  refine ⟨h.1, ?_⟩
  rcases h.2 with hn | ⟨g, cap, cur, e, hg, rest⟩
  · exact .inl hn
  · exact .inr ⟨g, cap, cur, e, by omega, rest⟩

/-- 'out = append(out, ..)' in a box, the rows at or beyond b1. -/
theorem boxed_appended {W w1 : World} {n₀ B b1 : Nat} {t e : TypeId} {size : Nat} {v v' : Value} {k m : Nat} {xs ys : List Value} {tmp : Obj}
    (hv : Boxed W B t v) (hte : t ≠ e) (hrow : W.ownsRow b1 e size v k xs) (hb1 : b1 ≤ W.heap.size) (hn : n₀ ≤ b1) (hB : n₀ ≤ B)
    (hown' : w1.ownsRow b1 e size v' m ys) (hgrow : (W.alloc tmp).grownBy w1 v.ownBlock) :
    Boxed w1 B t v ∧ Boxed (w1.setCell ⟨B, 0, none⟩ v') B t v' ∧ (w1.setCell ⟨B, 0, none⟩ v').ownsRow b1 e size v' m ys ∧ KeepsOthers W (w1.setCell ⟨B, 0, none⟩ v') ∧ Below n₀ W (w1.setCell ⟨B, 0, none⟩ v') ∧
      ∀ j, j < b1 → j ≠ B → (w1.setCell ⟨B, 0, none⟩ v').heap[j]? = W.heap[j]? := by
  obtain ⟨a1, a2, _, a4, a5⟩ := hv.appended hte (ownsRow_mono hrow hn) (by omega) hB (ownsRow_mono hown' hn) hgrow
  refine ⟨a1, a2, hown'.kept (grownBy_setCell' w1 B v') (.inr (a1.not_row hte hown').symm), a4, a5, fun j hj hne => ?_⟩
  rw [(grownBy_setCell' w1 B v').block j (by have := hgrow.size; simp at this; omega) (by simpa using hne)]
  rw [hgrow.block j (by simp; omega) (fun e => by have := (World.ownsRow.lt hrow j e.symm).1; omega)]
  exact Below.heap_alloc _ _ _ (by omega)
end Go.Proofs.Ytgddobdpibnkeaa
/- The contract of PathOf of the program: the way from a node to the root, in new memory. -/
namespace Go.Proofs.Ytgddobdpibnkeaa
open Go.RowKit Go.Shelf
attribute [local go_sem] Oper.semAt_some

set_option maxRecDepth 100000 in
set_option maxHeartbeats 2000000 in
theorem pathOf_in (n : Nat) (hn : 6 ≤ n) (x : Int) (w : World) :
    CallsIn Fence.wide n Try.prog 16 #[.int .i64 x] w fun e W' => ∃ v, e = .returned v ∧ Ints w.heap.size v (path x) W' ∧ Below w.heap.size w W' := by
  have hf1 : Fence.wide.fn 16 := trivial
  have h1 : 1 ≤ n := by omega
  obtain ⟨i0, hi, hz0, hz1, hz2⟩ := info_parts info64
  refine callsIn_of_wp_marks Try.func16 rfl hf1 ?_ rfl
  simp only [Try.ntmps16, List.size_toArray, List.length_cons, List.length_nil, Nat.reduceAdd, Nat.reduceSub, Array.replicate_succ, Array.replicate_zero, List.push_toArray, List.append_toArray, List.nil_append, List.cons_append]
  gi_wp2_with fail
  refine ⟨trivial, ?_⟩
  refine (callsIn_wide.2 (newTree_any _)).mono ?_
  rintro e w' ⟨rfl, rfl⟩
  gi_wp2_with fail
  refine ⟨trivial, ?_⟩
  refine (callsIn_wide.2 (up_any _ _)).mono ?_
  rintro e w' ⟨rfl, rfl⟩
  have bO := ((((Boxed.new w 24 (.slice none 0 0)).alloc treeObj).alloc treeObj).alloc treeObj).alloc (.cells #[.int .i64 x] 2)
  have hB0 : Below w.heap.size w (((((w.alloc (.cells #[.slice none 0 0] 24)).alloc treeObj).alloc treeObj).alloc treeObj).alloc (.cells #[.int .i64 x] 2)) :=
    (((((Below.refl _ w).alloc (Nat.le_refl _) _).alloc (by simp) _).alloc (by simp; omega) _).alloc (by simp; omega) _).alloc (by simp; omega) _
  have hN := heap_alloc_new ((((w.alloc (.cells #[.slice none 0 0] 24)).alloc treeObj).alloc treeObj).alloc treeObj) (.cells #[.int .i64 x] 2)
  have hT := (Below.heap_alloc ((((w.alloc (.cells #[.slice none 0 0] 24)).alloc treeObj).alloc treeObj).alloc treeObj) (.cells #[.int .i64 x] 2) _ (by simp)).trans (heap_alloc_new (((w.alloc (.cells #[.slice none 0 0] 24)).alloc treeObj).alloc treeObj) treeObj)
  simp only [World.size_alloc] at hN hT
  gi_wp2_with fail
  have hsz : (((((w.alloc (.cells #[.slice none 0 0] 24)).alloc treeObj).alloc treeObj).alloc treeObj).alloc (.cells #[.int .i64 x] 2)).heap.size = w.heap.size + 5 := by simp
  generalize ((((w.alloc (.cells #[.slice none 0 0] 24)).alloc treeObj).alloc treeObj).alloc treeObj).alloc (.cells #[.int .i64 x] 2) = W0 at bO hB0 hN hT hsz ⊢
  have hlen := path_len x
  refine wpIn_rangeFunc_ownG rfl h1 (gf := 93) (lb := #[.pointer (some ⟨w.heap.size + 1 + 1 + 1 + 1, 0, none⟩), .pointer (some ⟨w.heap.size + 1 + 1 + 1, 0, none⟩)]) rfl trivial (enters_of Try.func93 (by kernel_rfl) rfl)
    (up1_stops (n - 1) (by omega) _ _ x W0 hN hT) KpT.trans (KpT.book (by omega) (by omega)) (Below.refl _ _) (fun _ => rfl)
    (fun (pre : List Int) W => (∃ v, Boxed W w.heap.size 24 v ∧ W.ownsRow W0.heap.size 2 1 v pre.length (pre.map (Value.int .i64)) ∧ True) ∧ Below w.heap.size w W ∧ W0.heap.size ≤ W.heap.size)
    (fun _ _ _ => False)
    ?hI
    (fun _ _ _ _ _ hs _ _ => hs)
    ⟨⟨_, bO, World.ownsRow_nil _ _ _ _, trivial⟩, hB0, Nat.le_refl _⟩
    (fun y => { tmps := #[.int .i64 x, undef, .slice none 0 0, .pointer (some ⟨w.heap.size, 0, none⟩), .int .i64 y, .agg treeCells, .int .i64 x, .func (.func 93) #[] #[.pointer (some ⟨w.heap.size + 1 + 1 + 1 + 1, 0, none⟩), .pointer (some ⟨w.heap.size + 1 + 1 + 1, 0, none⟩)], .int .i64 y, undef, undef, undef, undef, undef], defers := [] }) ?assign ?body ?done ?stop
  case hI =>
    refine OwnFrom.and (Own.from (holdsRow_own W0.heap.size w.heap.size 24 2 1 (fun pre : List Int => pre.length) (fun pre : List Int => pre.map (Value.int .i64)) (fun _ _ => True)) _) (OwnFrom.and (ownFrom_below (Nat.le_refl _) (by omega)) ?_)
    intro s A B row hs hg hr
    have := hg.size
    omega
  case assign =>
    intro l y W K hK
    gi_wp2
    exact hK
  case body =>
    rintro l pre y W ⟨⟨v, hv, hrow, _⟩, hB, hW0⟩ hlt
    have hc := hv.cell
    gi_wp2_with (gi_at_builtin; refine wpListIn_append_own _ rfl _ _ 24 rfl W0.heap.size 2 i0 (.int .i64 0) 1 8 Try.underlying24 hi hz0 hz1 hz2 rfl (by decide) _ _ _ rfl (hrow.alloc _) ⟨W.heap.size, 0, none⟩ 1 1 [.int .i64 y] rfl rfl (cell_one_new _ _ _) (by simp [Value.oneCell']) (by unfold maxLen; omega) (by omega) (by simp; omega) ?_; intro v' w1 hown' hgrow _; obtain ⟨g', cap', rfl⟩ := ownsRow_succ hown'; obtain ⟨hv1, hv2, hr2, hk2, hb2, hold⟩ := boxed_appended (n₀ := w.heap.size) hv (by decide) hrow hW0 (by omega) (Nat.le_refl _) hown' hgrow; have hc1 := hv1.cell; have hf1 := hv1.frozen)
    exact ⟨hk2.from _, ⟨hold _ (by omega) (by omega), hold _ (by omega) (by omega)⟩, ⟨_, hv2, by simpa using hr2, trivial⟩, hB.trans hb2, by have := hb2.size; omega⟩
  case done =>
    rintro D ys W hD rfl ⟨⟨v, hv, hrow, _⟩, hB, _⟩ hK
    have hc := hv.cell
    gi_wp2
    refine ⟨by simp, .inl ⟨_, _, rfl, run_takeDeferred hK, ?_⟩⟩
    exact ⟨_, results_tmp rfl _ _ _, v, rfl, ownsRow_mono (ownsRow_putObj hrow _ hK rfl) (by omega), hB.trans (belowK_b (w := w) (Nat.le_refl _) W D _ _ (by omega) hK rfl rfl)⟩
  case stop =>
    rintro D c pre W _ _ h _
    exact h.elim

theorem pathOf_any (x : Int) (w : World) :
    Calls Try.prog 16 #[.int .i64 x] w fun e W' => ∃ v, e = .returned v ∧ Ints w.heap.size v (path x) W' ∧ Below w.heap.size w W' := callsIn_wide.1 (pathOf_in 6 (by omega) x w)
end Go.Proofs.Ytgddobdpibnkeaa
/- KeysFor of the program: the keys of the nodes from a leaf to the root, rising. -/
namespace Go.Proofs.Ytgddobdpibnkeaa
open Go.RowKit

def keysOn (vs : List Int) (l : Int) : List (Int × Int) := (path l).map fun n => (n, vAt vs (n.toNat - 1))
theorem path_four {l : Int} (h1 : 8 ≤ l) (h2 : l ≤ 15) : (path l).length = 4 ∧ ∀ i (hi : i < (path l).length), 1 ≤ (path l)[i] ∧ (path l)[i] ≤ 15 := by
  have : l = 8 ∨ l = 9 ∨ l = 10 ∨ l = 11 ∨ l = 12 ∨ l = 13 ∨ l = 14 ∨ l = 15 := by omega
  rcases this with rfl | rfl | rfl | rfl | rfl | rfl | rfl | rfl <;> decide
def kfB (ep : Int) (vs : List Int) (ss : List (Int × Int)) (m : Int) : Bool := serverB ep vs ss && (seatOf ss m).isSome
def kfL (ep : Int) (vs : List Int) (ss : List (Int × Int)) (m : Int) : List (Int × Int) := if kfB ep vs ss m = true then (keysOn vs (leafV ss m)).reverse else []
theorem kf_not {ep : Int} {vs : List Int} {ss : List (Int × Int)} {m : Int} (h : kfB ep vs ss m = false) : kfL ep vs ss m = [] := by unfold kfL; rw [h]; rfl
theorem keysOn_len {vs : List Int} {l : Int} (h : 8 ≤ l ∧ l ≤ 15) : (keysOn vs l).length = 4 := by unfold keysOn; rw [List.length_map]; exact (path_four h.1 h.2).1
theorem keysOn_at {vs : List Int} {l : Int} (k : Nat) (hk : k < (path l).length) : (keysOn vs l).take (k + 1) = (keysOn vs l).take k ++ [((path l)[k], vAt vs ((path l)[k].toNat - 1))] := by
  have hk' : k < (keysOn vs l).length := by unfold keysOn; rw [List.length_map]; exact hk
  rw [List.take_succ_eq_append_getElem hk']
  simp [keysOn]
theorem kfL_len (ep : Int) (vs : List Int) (ss : List (Int × Int)) (m : Int) : (kfL ep vs ss m).length ≤ 4 := by
  unfold kfL
  by_cases h : kfB ep vs ss m = true
  · rw [if_pos h, List.length_reverse]
    unfold kfB at h
    simp only [Bool.and_eq_true] at h
    obtain ⟨l, hl⟩ := Option.isSome_iff_exists.1 h.2
    have := seatOf_leaf h.1 hl
    have e : leafV ss m = l := by unfold leafV; rw [hl]; rfl
    rw [e, keysOn_len this]
    exact Nat.le_refl _
  · rw [if_neg h]; simp
theorem none_keys (B : Nat) (w : World) : Keys B (.slice none 0 0) [] w := ⟨by simp [kcells], .inl ⟨rfl, rfl⟩⟩
theorem keys_since {B : Nat} {v : Value} {ks : List (Int × Int)} {W W' : World} (h : Keys B v ks W) (hb : Below W.heap.size W W') : Keys B v ks W' := h.below hb (fun k e => (h.lt k e).2)
theorem cell_key (W : World) (n v : Int) : ∀ j u, [Value.int .i64 n, Value.int .i64 v][j]? = some u → (W.alloc (.cells #[.int .i64 n, .int .i64 v] 37)).cell? ((⟨W.heap.size, 0, none⟩ : Addr).add j) = some u := by
  intro j u hu
  match j with
  | 0 => simp at hu; subst hu; simp [Addr.add]
  | 1 => simp at hu; subst hu; simp [Addr.add]
  | j + 2 => simp at hu
theorem keys_row {W : World} {B n : Nat} {v : Value} {ys : List Value} {xs : List (Int × Int)} (h : W.ownsRow B 37 2 v n ys) (e : ys = kcells xs) (hn : xs.length = n) : ∃ a c, v = .slice a n c ∧ Keys B (.slice a n c) xs W := by
  subst e hn
  obtain ⟨a, c, hv, _, _⟩ := Keys.row (show Keys B v xs W from h)
  subst hv
  exact ⟨a, c, rfl, h⟩

set_option maxRecDepth 100000 in
set_option maxHeartbeats 2000000 in
theorem keysFor_any {B C : Nat} {x y : Value} {vs : List Int} {ss : List (Int × Int)} {w : World} (ep m : Int) (hx : Ints B x vs w) (hy : Seats C y ss w) :
    Calls Try.prog 10 #[svv ep x y, .int .i64 m] w fun e w' => ∃ a c, e = .returned (.tuple #[.slice a (kfL ep vs ss m).length c, .bool (kfB ep vs ss m)]) ∧ Keys w.heap.size (.slice a (kfL ep vs ss m).length c) (kfL ep vs ss m) w' ∧ Below w.heap.size w w' := by
  obtain ⟨i0, hi, hz0, hz1, hz2⟩ := info_parts infoK
  have hB1 := one_below w (svb ep x y)
  obtain ⟨c0, c1, c2⟩ := scell3 w ep x y
  have X1 := hidOf' (hx.since hB1)
  have Y1 := hidOf' (hy.since hB1)
  obtain ⟨ax, cx, hvx, _, _⟩ := hx.row
  obtain ⟨ay, cy, hvy, _, _⟩ := hy.row
  subst hvx hvy
  clear hx hy
  go_enter Try.func10, Try.ntmps10
  go_wp2_with fail
  generalize w.alloc (svb ep (.slice ax vs.length cx) (.slice ay ss.length cy)) = w1 at *
  refine (serverOk_any ep X1.out Y1.out).mono ?_
  rintro e w2 ⟨rfl, b2⟩
  have B2 := hidOf' (more hB1 b2)
  have d0 := cell_since c0 b2
  have d1 := cell_since c1 b2
  have d2 := cell_since c2 b2
  have X2 := hidOf' (X1.out.since b2)
  have Y2 := hidOf' (Y1.out.since b2)
  clear c0 c1 c2 X1 Y1 hB1 b2
  cases hok : serverB ep vs ss with
  | false =>
    have hb : kfB ep vs ss m = false := by simp [kfB, hok]
    have HA := hidOf' (And.intro hb (kf_not hb))
    clear hb
    go_wp2
    obtain ⟨h1, h2⟩ := HA.out
    rw [h1, h2]
    exact bodyPost_ret (v := .tuple #[.slice none 0 0, .bool false]) (by simp [results, Try.results10, go_sem]) rfl ⟨none, 0, rfl, none_keys _ _, B2.out⟩
  | true =>
    go_wp2_with fail
    refine (leafOf_any ep m Y2.out).mono ?_
    rintro e w3 ⟨rfl, b3⟩
    have B3 := hidOf' (more B2.out b3)
    have d0 := cell_since d0 b3
    have d1 := cell_since d1 b3
    have d2 := cell_since d2 b3
    have X3 := hidOf' (X2.out.since b3)
    clear X2 Y2 B2 b3
    cases hse : seatOf ss m with
    | none =>
      have hb : kfB ep vs ss m = false := by simp [kfB, hse]
      have HA := hidOf' (And.intro hb (kf_not hb))
      clear hb
      simp only [Option.isSome_none]
      go_wp2
      obtain ⟨h1, h2⟩ := HA.out
      rw [h1, h2]
      exact bodyPost_ret (v := .tuple #[.slice none 0 0, .bool false]) (by simp [results, Try.results10, go_sem]) rfl ⟨none, 0, rfl, none_keys _ _, B3.out⟩
    | some lf =>
      have hb : kfB ep vs ss m = true := by simp [kfB, hok, hse]
      have hlv : leafV ss m = lf := by unfold leafV; rw [hse]; rfl
      have hlf := seatOf_leaf hok hse
      have HLen := hidOf' (serverB_len hok)
      have HA := hidOf' (And.intro hb (show kfL ep vs ss m = (keysOn vs lf).reverse by unfold kfL; rw [if_pos hb, hlv]))
      obtain ⟨hp4, hpr⟩ := path_four hlf.1 hlf.2
      have HPR := hidOf' hpr
      have HK4 := hidOf' (keysOn_len (vs := vs) hlf)
      clear hpr hb
      simp only [Option.isSome_some]
      rw [hlv]
      clear hlv hse hok
      go_wp2_with fail
      refine (pathOf_any lf _).mono ?_
      rintro e w4 ⟨vp, rfl, p4, b4⟩
      obtain ⟨ap, cp, hvp, _, hprow⟩ := p4.row
      rw [hp4] at hvp
      subst hvp
      have HPW := hidOf' hprow
      have B4 := hidOf' (more B3.out b4)
      have d0 := cell_since d0 b4
      have d1 := cell_since d1 b4
      have d2 := cell_since d2 b4
      have X4 := hidOf' (X3.out.since b4)
      clear X3 B3 b4 p4 hprow
      go_wp2
      go_loopw [8, 25] (fun kvv i wr => ∃ (k : Nat) (a : Option Addr) (c : Nat), kvv = .slice a k c ∧ i = .int .i64 (k : Int) ∧ k ≤ 4 ∧ Hid (Keys w4.heap.size (.slice a k c) ((keysOn vs lf).take k) wr) ∧ Below w4.heap.size w4 wr) (fun _ i _ => 4 - (intOf i).toNat)
      case atStart => exact ⟨0, none, 0, rfl, rfl, by omega, none_keys _ _, Below.refl _ _⟩
      case round =>
        obtain ⟨k, a, c, rfl, rfl, hk, HKs, hB⟩ := hrel
        have hkl : ((keysOn vs lf).take k).length = k := by rw [List.length_take, HK4.out]; omega
        by_cases hlt : k < 4
        · obtain ⟨g, ha, hg, hseg⟩ : ∃ g, ap = some ⟨g, 0, none⟩ ∧ g < w4.heap.size ∧ ISeg g 0 (path lf) w4 := by
            rcases HPW.out with e | e
            · rw [e] at hp4; simp at hp4
            · exact e
          subst ha
          have a1 := hseg k (by omega)
          simp only [Nat.zero_add] at a1
          have e1 := cell_since a1 hB
          have e2 := cell_since d0 hB
          have e3 := cell_since d1 hB
          have e4 := cell_since d2 hB
          have hkp : k < (path lf).length := by omega
          have HT := hidOf' (keysOn_at (vs := vs) k hkp)
          have hbn := HPR.out k hkp
          clear hseg a1
          obtain ⟨j, hj⟩ : ∃ j : Nat, (path lf)[k] = (j : Int) + 1 := ⟨((path lf)[k] - 1).toNat, by omega⟩
          rw [hj] at e1 HT hbn
          have hj15 : j < 15 := by omega
          have hjt : ((j : Int) + 1).toNat - 1 = j := by omega
          rw [hjt] at HT
          clear hj hjt
          go_wp2_with fail
          refine (keyAt_any ep j hj15 HLen.out (X4.out.since hB)).mono ?_
          rintro e w5 ⟨rfl, b5⟩
          have hB5 := hidOf' (hB.trans (b5.mono hB.size))
          have HK5 := hidOf' (keys_since HKs.out b5)
          have hne : ∀ jj, (Value.slice a k c).ownBlock = some jj → w4.heap.size ≤ jj := fun jj e => (HKs.out.lt jj e).1
          have hs5 := b5.size
          have hs4 := hB.size
          have HOwn : Hid ((w5.alloc (.cells #[.int .i64 ((j : Int) + 1), .int .i64 (vAt vs j)] 37)).ownsRow w4.heap.size 37 2 (.slice a k c) k (kcells ((keysOn vs lf).take k))) := by
            have := World.ownsRow.alloc HK5.out (.cells #[.int .i64 ((j : Int) + 1), .int .i64 (vAt vs j)] 37)
            rwa [hkl] at this
          clear b5 hB HKs HK5 e1 e2 e3 e4
          generalize hvj : vAt vs j = vj at *
          go_wp2_with (at_builtin; refine wpList_append_own _ rfl _ _ 30 rfl w4.heap.size 37 i0 (.agg #[.int .i64 0, .int .i64 0]) 2 16 Try.underlying30 hi hz0 hz1 hz2 rfl (by decide) _ _ _ rfl HOwn.out ⟨w5.heap.size, 0, none⟩ 1 1 [.int .i64 ((j : Int) + 1), .int .i64 vj] rfl rfl (cell_key _ _ _) (by simp [Value.oneCell']) (by unfold maxLen; omega) (by omega) (by simp <;> omega) ?_; intro v' w8 hown' hgrow _; obtain ⟨a8, c8, hv', hI'⟩ := keys_row (xs := (keysOn vs lf).take k ++ [((j : Int) + 1, vj)]) hown' (by rw [kcells_append]; rfl) (by simp [hkl]); subst hv'; have HI8 := hidOf' hI'; have HB8 : Hid (Below w4.heap.size w4 w8) := (hB5.out.alloc hB5.out.size _).grown hgrow (by simp <;> omega) (fun k e => by have := hne _ e; omega); clear hown' hI' hgrow hB5)
          go_roundw
          case rel => exact ⟨k + 1, a8, c8, by go_num, by go_num, by omega, (by show Keys _ _ _ _; rw [HT.out]; exact HI8.out), HB8.out⟩
          case measure => simp [intOf] <;> omega
        · obtain rfl : k = 4 := by omega
          have hKs := HKs.out
          rw [List.take_of_length_le (by rw [HK4.out]; exact Nat.le_refl _)] at hKs
          obtain ⟨g, ha⟩ : ∃ g, a = some ⟨g, 0, none⟩ := by
            rcases hKs.form with ⟨e, e'⟩ | ⟨g, cap, e, _⟩
            · cases e
            · injection e with e; exact ⟨g, e⟩
          subst ha
          obtain ⟨k0, k1, k2, k3, hL⟩ : ∃ k0 k1 k2 k3, keysOn vs lf = [k0, k1, k2, k3] := by
            have := HK4.out
            match hq : keysOn vs lf, this with
            | [a, b, c, d], _ => exact ⟨a, b, c, d, rfl⟩
          rw [hL] at hKs
          have HL := hidOf' hL
          have HKs' := hidOf' hKs
          have hgl := (hKs.lt g rfl).1
          clear hKs HKs hL hkl
          go_wp2_with fail
          refine (reverse4_any HKs'.out).mono ?_
          rintro e w6 ⟨rfl, k6, g6⟩
          have HB6 := hidOf' (more B4.out (hB.grown g6 hB.size (fun j e => by cases e; exact hgl)))
          have HK6 := hidOf' k6
          clear k6 g6 HKs'
          go_wp2
          obtain ⟨h1, h2⟩ := HA.out
          have hrev : kfL ep vs ss m = [k3, k2, k1, k0] := by rw [h2, HL.out]; rfl
          rw [h1, hrev]
          exact bodyPost_ret (v := .tuple #[.slice (some ⟨g, 0, none⟩) 4 c, .bool true]) (by simp [results, Try.results10, go_sem]) rfl ⟨some ⟨g, 0, none⟩, c, rfl, HK6.out.mono B4.out.size, HB6.out⟩
end Go.Proofs.Ytgddobdpibnkeaa
/- The contract of PathOf of the model: the way from a node to the root, in new memory. -/
namespace Go.Proofs.Ytgddobdpibnkeaa
open Go.RowKit

set_option maxRecDepth 100000 in
set_option maxHeartbeats 400000 in
theorem specPathOf_any (x : Int) (w : World) :
    Calls Try.prog 91 #[.int .i64 x] w fun e w' => ∃ v, e = .returned v ∧ Ints w.heap.size v (path x) w' ∧ Below w.heap.size w w' := by
  obtain ⟨i0, hi, hz0, hz1, hz2⟩ := info_parts info64
  have hI0 : Ints w.heap.size (.slice (some ⟨w.heap.size, 0, none⟩) 0 0) [] (w.alloc (.cells #[] 2)) := World.ownsRow_lit w #[] 0 (Nat.le_refl _) (by decide) rfl
  by_cases hx : 1 ≤ x ∧ x ≤ 15
  · have hd : decide (1 ≤ x ∧ x ≤ 15) = true := decide_eq_true hx
    have hm0 : Hid (x = ((x.toNat : Nat) : Int)) := show x = _ by omega
    have hp : path x = pathF 5 x.toNat := by unfold path; rw [if_pos hx]
    have hlen := path_len x
    rw [hp] at hlen ⊢
    go_enter Try.func91, Try.ntmps91
    go_wp2_with fail
    refine (l1In_any _ _ _ _).mono ?_
    rintro e w' ⟨rfl, rfl⟩
    rw [hd]
    go_wp2
    go_loopw [0, 3] (fun p v wr => ∃ (pre : List Int) (m : Nat), p = .int .i64 (m : Int) ∧ m ≤ 15 ∧ pathF 5 x.toNat = pre ++ pathF 5 m ∧ Ints w.heap.size v pre wr ∧ Below w.heap.size w wr ∧ w.heap.size ≤ wr.heap.size)
      (fun p _ _ => (intOf p).toNat)
    case atStart => exact ⟨[], x.toNat, by rw [← hm0.out], by omega, rfl, hI0, (Below.refl _ _).alloc (Nat.le_refl _) _, by simp⟩
    case round =>
      obtain ⟨pre, m, rfl, hm, hpre, hI, hB, hsz⟩ := hrel
      by_cases hz : m = 0
      · subst hz
        have e : pre = pathF 5 x.toNat := by rw [hpre]; simp [pathF]
        go_wp2
        go_ret
        exact ⟨_, rfl, by rw [← e]; exact hI, hB⟩
      · have hst := pathF_step m (by omega) hm
        have hpl : pre.length < 4 := by rw [hpre, hst] at hlen; simp at hlen; omega
        have hge : (1 : Int) ≤ (m : Int) := by omega
        have he : pathF 5 x.toNat = pre ++ [(m : Int)] ++ pathF 5 (m / 2) := by rw [hpre, hst]; simp
        have HE : Hid _ := he
        clear he
        clear hpre hst hp hlen
        go_wp2_with (at_builtin; refine wpList_append_own _ rfl _ _ 24 rfl w.heap.size 2 i0 (.int .i64 0) 1 8 Try.underlying24 hi hz0 hz1 hz2 rfl (by decide) _ _ _ rfl (World.ownsRow.alloc hI _) ⟨wr.heap.size, 0, none⟩ 1 1 [.int .i64 (m : Int)] rfl rfl (cell_one_new _ _ _) (by simp [Value.oneCell']) (by unfold maxLen; omega) (by omega) (by simp; omega) ?_; intro v' w2 hown' hgrow _)
        go_roundw
        case rel => exact ⟨pre ++ [(m : Int)], m / 2, by go_num, by omega, HE.out, by unfold Ints; simpa using hown', app_below hI hB hgrow, by have := hgrow.size; simp at this; omega⟩
        case measure => simp [intOf]; omega
  · have hd : decide (1 ≤ x ∧ x ≤ 15) = false := decide_eq_false hx
    have hp : path x = [] := by unfold path; rw [if_neg hx]
    rw [hp]
    go_enter Try.func91, Try.ntmps91
    go_wp2_with fail
    refine (l1In_any _ _ _ _).mono ?_
    rintro e w' ⟨rfl, rfl⟩
    rw [hd]
    go_wp2
    go_ret
    exact ⟨_, rfl, hI0, (Below.refl _ _).alloc (Nat.le_refl _) _⟩
end Go.Proofs.Ytgddobdpibnkeaa
/- KeysFor of the model. -/
namespace Go.Proofs.Ytgddobdpibnkeaa
open Go.RowKit

theorem step_append_k {P : Program} (w : World) {ops : Array Oper} {o : Oper} {a : Act} {K : Act → World → Prop} {Q : Exit → Act → World → Prop} {E : Prop} (hw : Region.wanted o (yielded ops a.tmps) = true) (s x : Operand) (t : TypeId)
    (ho : o.op = .call { callee := .builtin .append, args := #[s, x], argTypes := #[t, t] })
    (base : Nat) (e : TypeId) (i : TypeInfo) (z : Value) (size bytes : Nat) (ht : P.underlying t = some (.slice e)) (hi : P.info? e = some i) (hz : i.zero = some z)
    (hsize : i.size = size) (hby : i.bytes = bytes) (hzs : z.cells.size = size) (hsz : 0 < size)
    (v : Value) (n : Nat) (xs : List Value) (hs : a.eval s = v) (hown : w.ownsRow base e size v n xs)
    (ad : Addr) (m c : Nat) (news : List Value) (hx : a.eval x = .slice (some ad) m c) (hl : news.length = m * size) (hnews : ∀ j u, news[j]? = some u → w.cell? (ad.add j) = some u) (h1 : ∀ u ∈ news, u.oneCell' = true)
    (hm : 0 < m) (h63 : n + m ≤ maxLen) (hbytes : (n + m) * bytes ≤ 140737488355328) (hbase : base ≤ w.heap.size) (H : Nat) (hH : w.heap.size = H)
    (h : ∀ g cap w', w'.ownsRow base e size (.slice (some ⟨g, 0, none⟩) (n + m) cap) (n + m) (xs ++ news) → w.grownBy w' v.ownBlock → (v.ownBlock = some g ∨ g = H) → g < w'.heap.size → K (a.put o.dst (.slice (some ⟨g, 0, none⟩) (n + m) cap)) w') :
    if Region.wanted o (yielded ops a.tmps) = true then Oper.wp P o a w K Q else E := by
  rw [if_pos hw]
  exact wp_append_lies w s x t ho base e i z size bytes ht hi hz hsize hby hzs hsz v n xs hs hown ad m c news hx hl hnews h1 hm h63 hbytes hbase H hH h
theorem own_ik {B C : Nat} {v u : Value} {xs : List Int} {ys : List (Int × Int)} {W : World} (h : Ints B v xs W) (h' : Keys C u ys W) : ∀ j, u.ownBlock = some j → v.ownBlock ≠ some j := by
  intro j e' e
  rcases h.2 with ⟨rfl, _⟩ | ⟨g, cap, cur, rfl, _, hg, _⟩
  · cases e
  · rcases h'.2 with ⟨rfl, _⟩ | ⟨g', cap', cur', rfl, _, hg', _⟩
    · cases e'
    · simp [Value.ownBlock] at e e'
      subst e e'
      have := hg.symm.trans hg'
      simp at this
/-- What the round's region keeps. -/
def KRest (w : World) (box : Obj) (vp : Value) (ps : List Int) (W : World) : Prop := Ints (w.heap.size + 1 + 1) vp ps W ∧ W.heap[w.heap.size]? = some box ∧ Below w.heap.size w W ∧ w.heap.size + 1 + 1 ≤ W.heap.size
theorem KRest.later {w W W' : World} {box : Obj} {vp : Value} {ps : List Int} (h : KRest w box vp ps W) (hb : Below W.heap.size W W') : KRest w box vp ps W' :=
  ⟨h.1.since hb, (hb.block _ (by have := h.2.2.2; omega)).trans h.2.1, h.2.2.1.trans (hb.mono h.2.2.1.size), by have := hb.size; have := h.2.2.2; omega⟩
theorem KRest.grown {w W W' : World} {box : Obj} {vp : Value} {ps : List Int} {row : Option Nat} (h : KRest w box vp ps W) (hg : W.grownBy W' row) (hr : ∀ k, row = some k → w.heap.size + 1 ≤ k ∧ vp.ownBlock ≠ some k) : KRest w box vp ps W' :=
  ⟨h.1.kept hg (fun k e => (hr k e).2), (hg.block _ (by have := h.2.2.2; omega) (fun e => by have := (hr _ e.symm).1; omega)).trans h.2.1, h.2.2.1.grown hg h.2.2.1.size (fun k e => by have := (hr k e).1; omega), by have := hg.size; have := h.2.2.2; omega⟩
theorem held4_later {w W W' : World} {box : Obj} {vp : Value} {ps : List Int} {p1 p2 p3 p4 : Addr} {v1 v2 v3 v4 : Value} (h : W.cell? p1 = some v1 ∧ W.cell? p2 = some v2 ∧ W.cell? p3 = some v3 ∧ W.cell? p4 = some v4 ∧ KRest w box vp ps W) (hb : Below W.heap.size W W') :
    W'.cell? p1 = some v1 ∧ W'.cell? p2 = some v2 ∧ W'.cell? p3 = some v3 ∧ W'.cell? p4 = some v4 ∧ KRest w box vp ps W' := ⟨cell_since h.1 hb, cell_since h.2.1 hb, cell_since h.2.2.1 hb, cell_since h.2.2.2.1 hb, h.2.2.2.2.later hb⟩
theorem held4_grown {w W W' : World} {box : Obj} {vp : Value} {ps : List Int} {p1 p2 p3 p4 : Addr} {v1 v2 v3 v4 : Value} {row : Option Nat} (h : W.cell? p1 = some v1 ∧ W.cell? p2 = some v2 ∧ W.cell? p3 = some v3 ∧ W.cell? p4 = some v4 ∧ KRest w box vp ps W) (hg : W.grownBy W' row)
    (hr : ∀ k, row = some k → w.heap.size + 1 ≤ k ∧ vp.ownBlock ≠ some k) (b1 : p1.block = w.heap.size) (b2 : p2.block = w.heap.size) (b3 : p3.block = w.heap.size) (b4 : vp.ownBlock = some p4.block) :
    W'.cell? p1 = some v1 ∧ W'.cell? p2 = some v2 ∧ W'.cell? p3 = some v3 ∧ W'.cell? p4 = some v4 ∧ KRest w box vp ps W' :=
  ⟨hg.cell h.1 (fun e => by have := (hr _ e.symm).1; omega), hg.cell h.2.1 (fun e => by have := (hr _ e.symm).1; omega), hg.cell h.2.2.1 (fun e => by have := (hr _ e.symm).1; omega), hg.cell h.2.2.2.1 (fun e => (hr _ e.symm).2 b4), h.2.2.2.2.grown hg hr⟩
theorem keys_own {W : World} {B n : Nat} {v : Value} {xs : List (Int × Int)} (h : Keys B v xs W) (hn : xs.length = n) (o : Obj) : (W.alloc o).ownsRow B 37 2 v n (kcells xs) := by
  subst hn
  exact World.ownsRow.alloc h o
theorem keys_of {W : World} {B g N c : Nat} {ys : List Value} {xs : List (Int × Int)} (h : W.ownsRow B 37 2 (.slice (some ⟨g, 0, none⟩) N c) N ys) (e : ys = kcells xs) (hn : xs.length = N) : Keys B (.slice (some ⟨g, 0, none⟩) N c) xs W := by
  subst e hn
  exact h
theorem drop_rev2 (ws : List (Int × Int)) (j : Nat) (h : j < ws.length) : (ws.drop j).reverse = (ws.drop (j + 1)).reverse ++ [ws[j]] := by
  rw [List.drop_eq_getElem_cons h, List.reverse_cons]
theorem empty_keys (W : World) {S : Nat} (h : W.heap.size = S) : Keys S (.slice (some ⟨S, 0, none⟩) 0 0) [] (W.alloc (.cells #[] 37)) := by
  subst h
  exact World.ownsRow_lit (base := W.heap.size) (size := 2) W #[] 0 (Nat.le_refl _) (by decide) rfl

set_option maxRecDepth 100000 in
set_option maxHeartbeats 4000000 in
theorem l3Keys_any {B : Nat} {x y : Value} {vs : List Int} {w : World} (ep lf : Int) (hx : Ints B x vs w) (hlf : 8 ≤ lf ∧ lf ≤ 15) (hlen : vs.length = 15) :
    Calls Try.prog 45 #[svv ep x y, .int .i64 lf] w fun e w' => ∃ a c, e = .returned (.slice a 4 c) ∧ Keys w.heap.size (.slice a 4 c) (keysOn vs lf).reverse w' ∧ Below w.heap.size w w' := by
  obtain ⟨i0, hi, hz0, hz1, hz2⟩ := info_parts infoK
  have HLen := hidOf' hlen
  have HX := hidOf' hx
  have hB1 := two_below w (svb ep x y) (.cells #[] 37)
  have t0 : ((w.alloc (svb ep x y)).alloc (.cells #[] 37)).heap[w.heap.size]? = some (svb ep x y) := by
    rw [Below.heap_alloc _ _ _ (by simp)]
    exact heap_alloc_new _ _
  have E1 := hidOf' (empty_keys (w.alloc (svb ep x y)) (S := w.heap.size + 1) (by simp))
  have hs1 : ((w.alloc (svb ep x y)).alloc (.cells #[] 37)).heap.size = w.heap.size + 1 + 1 := by simp
  obtain ⟨hp4, hpr⟩ := path_four hlf.1 hlf.2
  have HPR := hidOf' hpr
  have HK4 := hidOf' (keysOn_len (vs := vs) hlf)
  clear hpr hlen hx
  go_enter Try.func45, Try.ntmps45
  go_wp2_with fail
  generalize (w.alloc (svb ep x y)).alloc (.cells #[] 37) = w1 at *
  refine (specPathOf_any lf _).mono ?_
  rintro e w2 ⟨vp, rfl, p2, b2⟩
  obtain ⟨ap, cp, hvp, _, hprow⟩ := p2.row
  rw [hp4] at hvp
  obtain ⟨g, ha⟩ : ∃ g, ap = some ⟨g, 0, none⟩ := by
    rcases hprow with e | ⟨g, e, _⟩
    · rw [e] at hp4; simp at hp4
    · exact ⟨g, e⟩
  subst ha
  subst hvp
  have E2 := hidOf' (keys_since E1.out b2)
  have hR2 : KRest w (svb ep x y) (.slice (some ⟨g, 0, none⟩) 4 cp) (path lf) w2 := ⟨by rw [← hs1]; exact p2, (b2.block _ (by omega)).trans t0, more hB1 b2, by have := b2.size; omega⟩
  have HR2 := hidOf' hR2
  clear hR2 p2 b2 t0 hB1 E1 hprow
  go_wp2
  go_loopw [5, 7] (fun ov i wr => ∃ (k r : Nat) (a : Option Addr) (c : Nat), ov = .slice a r c ∧ i = .int .i64 ((k : Int) - 1) ∧ r + k = 4 ∧ Hid (Keys (w.heap.size + 1) (.slice a r c) ((keysOn vs lf).drop k).reverse wr) ∧ Hid (KRest w (svb ep x y) (.slice (some ⟨g, 0, none⟩) 4 cp) (path lf) wr)) (fun _ i _ => ((intOf i) + 1).toNat)
  case atStart => exact ⟨4, 0, _, _, rfl, rfl, by omega, (by show Keys _ _ _ _; rw [List.drop_of_length_le (by rw [HK4.out]; exact Nat.le_refl _)]; exact E2.out), HR2.out⟩
  case round =>
    obtain ⟨k, r, a, c, rfl, rfl, hk, HKs, HR⟩ := hrel
    clear E2 HR2
    cases k with
    | zero =>
      obtain rfl : r = 4 := by omega
      have HKf := hidOf' (show Keys w.heap.size (.slice a 4 c) (keysOn vs lf).reverse wr from by have := HKs.out; simpa using this.mono (show w.heap.size ≤ w.heap.size + 1 by omega))
      have HBf := hidOf' HR.out.2.2.1
      clear HKs HR
      go_wp2
      go_ret
      exact ⟨a, c, rfl, HKf.out, HBf.out⟩
    | succ j =>
      have hcast : ((j + 1 : Nat) : Int) - 1 = (j : Int) := by omega
      rw [hcast]
      have hj4 : (j : Int) < 4 := by omega
      have hjp : j < (path lf).length := by omega
      have hjk : j < (keysOn vs lf).length := by rw [HK4.out]; omega
      have hbn := HPR.out j hjp
      have HT := hidOf' (drop_rev2 (keysOn vs lf) j hjk)
      have hkj : (keysOn vs lf)[j] = ((path lf)[j], vAt vs ((path lf)[j].toNat - 1)) := by simp [keysOn]
      rw [hkj] at HT
      clear hkj
      have e1 : wr.cell? ⟨g, j, none⟩ = some (.int .i64 (path lf)[j]) := by
        rcases HR.out.1.form with ⟨e, _⟩ | ⟨g', cap', e, _, _, _, _, h3⟩
        · cases e
        · injection e with e; injection e with e; injection e with e; subst e
          exact (h3 j hjp).1
      obtain ⟨nd, hnd⟩ : ∃ nd : Nat, (path lf)[j] = (nd : Int) + 1 := ⟨((path lf)[j] - 1).toNat, by omega⟩
      rw [hnd] at e1 HT hbn
      have hn15 : nd < 15 := by omega
      have hnt : ((nd : Int) + 1).toNat - 1 = nd := by omega
      rw [hnt] at HT
      clear hnd hnt
      obtain ⟨⟨q0, q1, q2⟩, _, _, _⟩ := box3 HR.out.2.1
      have hX : Ints B x vs wr.drew := HX.out.below (HR.out.2.2.1.drew) (fun k e => (HX.out.lt k e).2)
      have HX5 := hidOf' hX
      have hrl : ((keysOn vs lf).drop (j + 1)).reverse.length = r := by rw [List.length_reverse, List.length_drop, HK4.out]; omega
      have hne : ∀ jj, (Value.slice a (r) c).ownBlock = some jj → w.heap.size + 1 ≤ jj ∧ (Value.slice (some ⟨g, 0, none⟩) 4 cp).ownBlock ≠ some jj := fun jj e => ⟨(HKs.out.lt jj e).1, own_ik HR.out.1 HKs.out jj e⟩
      have hP0 : wr.drew.cell? ⟨w.heap.size, 0, none⟩ = some (.int .i64 ep) ∧ wr.drew.cell? ⟨w.heap.size, 1, none⟩ = some x ∧ wr.drew.cell? ⟨w.heap.size, 2, none⟩ = some y ∧ wr.drew.cell? ⟨g, j, none⟩ = some (.int .i64 ((nd : Int) + 1)) ∧ KRest w (svb ep x y) (.slice (some ⟨g, 0, none⟩) 4 cp) (path lf) wr.drew := ⟨q0, q1, q2, e1, HR.out.later (Below.refl _ _).drew⟩
      have HP0 := hidOf' hP0
      have hszr := HR.out.2.2.2
      clear hX hP0
      generalize hvj : vAt vs nd = vj at *
      go_wp2
      go_region_held3 (fun W => W.cell? ⟨w.heap.size, 0, none⟩ = some (.int .i64 ep) ∧ W.cell? ⟨w.heap.size, 1, none⟩ = some x ∧ W.cell? ⟨w.heap.size, 2, none⟩ = some y ∧ W.cell? ⟨g, j, none⟩ = some (.int .i64 ((nd : Int) + 1)) ∧ KRest w (svb ep x y) (.slice (some ⟨g, 0, none⟩) 4 cp) (path lf) W)
        (first | exact HP0.out | exact held4_later ‹_› b5 | exact held4_later ‹_› (one_below _ _) | exact held4_grown ‹_› hgB hne rfl rfl rfl rfl | assumption)
        (first
          | (go_at_call 92; refine (l3Key_any ep nd hn15 HLen.out HX5.out).mono ?_; rintro e w5 ⟨rfl, b5⟩; rw [hvj]; have hs5 := b5.size; have hs5' : wr.heap.size ≤ w5.heap.size := hs5)
          | (refine step_append_k _ (by rfl) _ _ _ (by rfl) (w.heap.size + 1) 37 i0 (.agg #[.int .i64 0, .int .i64 0]) 2 16 Try.underlying30 hi hz0 hz1 hz2 rfl (by omega) (.slice a (r) c) (r) _ (by rfl) (by exact keys_own (keys_since (show Keys _ _ _ wr.drew from HKs.out) b5) hrl _) ⟨w5.heap.size, 0, none⟩ 1 _ [.int .i64 ((nd : Int) + 1), .int .i64 vj] (by rfl) (by rfl) (by exact cell_key _ _ _) (by simp [Value.oneCell']) (by omega) (by unfold maxLen; omega) (by omega) (by simp <;> omega) _ rfl ?_; intro gB cB wB hownB hgB hatB hltB))
      all_goals
        rename_i hHeld
        have HRf := hidOf' hHeld.2.2.2.2
        have HKn := hidOf' (keys_of (xs := ((keysOn vs lf).drop (j + 1)).reverse ++ [((nd : Int) + 1, vj)]) hownB (by rw [kcells_append]; rfl) (by rw [List.length_append, hrl]; rfl))
        clear hHeld hownB hgB b5 HP0 HX5 HKs HR
        go_wp2
        go_roundw
        case rel => exact ⟨j, r + 1, some ⟨gB, 0, none⟩, cB, rfl, by go_num, by omega, (by show Keys _ _ _ _; rw [HT.out]; exact HKn.out), HRf.out⟩
        case measure => simp [intOf] <;> omega

def KB (w : World) (_ep : Int) (x y : Value) (vs : List Int) (ss : List (Int × Int)) (B C : Nat) (W : World) : Prop := Ints B x vs W ∧ Seats C y ss W ∧ Below w.heap.size w W
theorem KB.later {w W W' : World} {ep : Int} {x y : Value} {vs : List Int} {ss : List (Int × Int)} {B C : Nat} (h : KB w ep x y vs ss B C W) (hb : Below W.heap.size W W') : KB w ep x y vs ss B C W' := ⟨h.1.since hb, h.2.1.since hb, h.2.2.trans (hb.mono h.2.2.size)⟩
theorem held3_later {w W W' : World} {ep : Int} {x y : Value} {vs : List Int} {ss : List (Int × Int)} {B C : Nat} {p1 p2 p3 : Addr} {v1 v2 v3 : Value} (h : W.cell? p1 = some v1 ∧ W.cell? p2 = some v2 ∧ W.cell? p3 = some v3 ∧ KB w ep x y vs ss B C W) (hb : Below W.heap.size W W') :
    W'.cell? p1 = some v1 ∧ W'.cell? p2 = some v2 ∧ W'.cell? p3 = some v3 ∧ KB w ep x y vs ss B C W' := ⟨cell_since h.1 hb, cell_since h.2.1 hb, cell_since h.2.2.1 hb, h.2.2.2.later hb⟩

set_option maxRecDepth 100000 in
set_option maxHeartbeats 2000000 in
theorem specKeysFor_any {B C : Nat} {x y : Value} {vs : List Int} {ss : List (Int × Int)} {w : World} (ep m : Int) (hx : Ints B x vs w) (hy : Seats C y ss w) :
    Calls Try.prog 11 #[svv ep x y, .int .i64 m] w fun e w' => ∃ a c, e = .returned (.tuple #[.slice a (kfL ep vs ss m).length c, .bool (kfB ep vs ss m)]) ∧ Keys w.heap.size (.slice a (kfL ep vs ss m).length c) (kfL ep vs ss m) w' ∧ Below w.heap.size w w' := by
  have hB1 := one_below w (svb ep x y)
  obtain ⟨c0, c1, c2⟩ := scell3 w ep x y
  have X1 := hidOf' (hx.since hB1)
  have Y1 := hidOf' (hy.since hB1)
  clear hx hy
  go_enter Try.func11, Try.ntmps11
  go_wp2_with fail
  generalize w.alloc (svb ep x y) = w1 at *
  refine (specServerOk_any ep X1.out Y1.out).mono ?_
  rintro e w2 ⟨rfl, b2⟩
  have B2 := hidOf' (more hB1 b2)
  have d0 := cell_since c0 b2
  have d1 := cell_since c1 b2
  have d2 := cell_since c2 b2
  have X2 := hidOf' (X1.out.since b2)
  have Y2 := hidOf' (Y1.out.since b2)
  clear c0 c1 c2 X1 Y1 hB1 b2
  cases hok : serverB ep vs ss with
  | false =>
    have hb : kfB ep vs ss m = false := by simp [kfB, hok]
    have HA := hidOf' (And.intro hb (kf_not hb))
    clear hb
    go_wp2
    obtain ⟨h1, h2⟩ := HA.out
    rw [h1, h2]
    exact bodyPost_ret (v := .tuple #[.slice none 0 0, .bool false]) (by simp [results, Try.results11, go_sem]) rfl ⟨none, 0, rfl, none_keys _ _, B2.out⟩
  | true =>
    go_wp2_with fail
    refine (l3Leaf_any ep m Y2.out).mono ?_
    rintro e w3 ⟨rfl, b3⟩
    have B3 := hidOf' (more B2.out b3)
    have d0 := cell_since d0 b3
    have d1 := cell_since d1 b3
    have d2 := cell_since d2 b3
    have X3 := hidOf' (X2.out.since b3)
    have Y3 := hidOf' (Y2.out.since b3)
    clear X2 Y2 B2 b3
    cases hse : seatOf ss m with
    | none =>
      have hb : kfB ep vs ss m = false := by simp [kfB, hse]
      have HA := hidOf' (And.intro hb (kf_not hb))
      have hlv : leafV ss m = 0 := by unfold leafV; rw [hse]; rfl
      clear hb
      rw [hlv]
      clear hlv hse hok
      go_wp2
      obtain ⟨h1, h2⟩ := HA.out
      rw [h1, h2]
      exact bodyPost_ret (v := .tuple #[.slice none 0 0, .bool false]) (by simp [results, Try.results11, go_sem]) rfl ⟨none, 0, rfl, none_keys _ _, B3.out⟩
    | some lf =>
      have hb : kfB ep vs ss m = true := by simp [kfB, hok, hse]
      have hlv : leafV ss m = lf := by unfold leafV; rw [hse]; rfl
      have hlf := seatOf_leaf hok hse
      have HLen := hidOf' (serverB_len hok)
      have hkl : kfL ep vs ss m = (keysOn vs lf).reverse := by unfold kfL; rw [if_pos hb, hlv]
      have HA := hidOf' (And.intro hb hkl)
      have HK4 := hidOf' (show ((keysOn vs lf).reverse).length = 4 by rw [List.length_reverse, keysOn_len hlf])
      have HLv := hidOf' hlv
      have HLf := hidOf' hlf
      have hz : (lf == 0) = false := by simp; omega
      rw [hlv]
      clear hb hlv hse hok hkl
      have hP0 : w3.drew.cell? ⟨w.heap.size, 0, none⟩ = some (.int .i64 ep) ∧ w3.drew.cell? ⟨w.heap.size, 1, none⟩ = some x ∧ w3.drew.cell? ⟨w.heap.size, 2, none⟩ = some y ∧ KB w ep x y vs ss B C w3.drew := ⟨d0, d1, d2, X3.out, Y3.out, B3.out.drew⟩
      have HP0 := hidOf' hP0
      clear hP0
      go_wp2
      go_region_held3 (fun W => W.cell? ⟨w.heap.size, 0, none⟩ = some (.int .i64 ep) ∧ W.cell? ⟨w.heap.size, 1, none⟩ = some x ∧ W.cell? ⟨w.heap.size, 2, none⟩ = some y ∧ KB w ep x y vs ss B C W)
        (first | exact HP0.out | exact held3_later ‹_› b5 | exact held3_later ‹_› b4 | assumption)
        (first
          | (go_at_call 44; refine (l3Leaf_any ep m HP0.out.2.2.2.2.1).mono ?_; rintro e w4 ⟨rfl, b4⟩; rw [HLv.out])
          | (go_at_call 45; refine (l3Keys_any ep lf ((show Ints B x vs w3.drew from X3.out).since b4) HLf.out HLen.out).mono ?_; rintro e w5 ⟨a5, c5, rfl, k5, b5⟩; have hs4 := b4.size; have HK5 := hidOf' k5))
      all_goals
        rename_i hHeld
        have HBf := hidOf' hHeld.2.2.2.2.2
        have hs3 := B3.out.size
        have hs34 : w3.heap.size ≤ w4.heap.size := hs4
        clear hHeld k5 b5 b4 hs4
        go_wp2
        obtain ⟨h1, h2⟩ := HA.out
        rw [h1, h2, HK4.out]
        exact bodyPost_ret (v := .tuple #[.slice a5 4 c5, .bool true]) (by simp [results, Try.results11, go_sem]) rfl ⟨a5, c5, rfl, HK5.out.mono (by omega), HBf.out⟩
end Go.Proofs.Ytgddobdpibnkeaa
/- What is known of a world while a law is walked, in one bundle: nothing that was there has turned, cells hold what they hold, rows of the call's own lie apart from one another. -/
namespace Go.Proofs.Ytgddobdpibnkeaa
open Go.RowKit

/-- A row of the call's own. -/
structure RowF where
  B : Nat
  t : TypeId
  sz : Nat
  v : Value
  n : Nat
  xs : List Value
/-- It lies in this world. -/
def RowF.on (r : RowF) (W : World) : Prop := W.ownsRow r.B r.t r.sz r.v r.n r.xs

/-- The bundle. -/
structure Kit (w0 : World) (cs : List (Addr × Value)) (rs : List RowF) (W : World) : Prop where
  bel : Below w0.heap.size w0 W
  cell : ∀ p, p ∈ cs → W.cell? p.1 = some p.2
  row : ∀ r, r ∈ rs → r.on W
  fresh : ∀ r, r ∈ rs → w0.heap.size ≤ r.B
  apart : rs.Pairwise fun r s => ∀ k, r.v.ownBlock = some k → s.v.ownBlock ≠ some k
  off : ∀ p, p ∈ cs → ∀ r, r ∈ rs → r.v.ownBlock ≠ some p.1.block

theorem RowF.lt {r : RowF} {W : World} (h : r.on W) : ∀ k, r.v.ownBlock = some k → r.B ≤ k ∧ k < W.heap.size := World.ownsRow.lt h
theorem RowF.since {r : RowF} {W W' : World} (h : r.on W) (hb : Below W.heap.size W W') : r.on W' := by
  refine ⟨h.1, ?_⟩
  rcases h.2 with hn | ⟨g, cap, cur, e, hb', hg, rest⟩
  · exact .inl hn
  · refine .inr ⟨g, cap, cur, e, hb', ?_, rest⟩
    rw [hb.block g (Array.getElem?_eq_some_iff.1 hg).1]
    exact hg
theorem RowF.kept {r : RowF} {W W' : World} {row : Option Nat} (h : r.on W) (hg : W.grownBy W' row) (hne : ∀ k, row = some k → r.v.ownBlock ≠ some k) : r.on W' := by
  refine World.ownsRow.kept h hg ?_
  cases row with
  | none => cases e : r.v.ownBlock <;> simp
  | some k => exact .inr (hne k rfl)

theorem Kit.start {w0 W : World} {cs : List (Addr × Value)} (hb : Below w0.heap.size w0 W) (hc : ∀ p, p ∈ cs → W.cell? p.1 = some p.2) : Kit w0 cs [] W :=
  ⟨hb, hc, (fun _ h => nomatch h), (fun _ h => nomatch h), .nil, fun _ _ _ h => nomatch h⟩
theorem Kit.since {w0 W W' : World} {cs : List (Addr × Value)} {rs : List RowF} (K : Kit w0 cs rs W) (hb : Below W.heap.size W W') : Kit w0 cs rs W' :=
  ⟨K.bel.trans (hb.mono K.bel.size), fun p h => cell_since (K.cell p h) hb, fun r h => RowF.since (K.row r h) hb, K.fresh, K.apart, K.off⟩
theorem Kit.drew {w0 W : World} {cs : List (Addr × Value)} {rs : List RowF} (K : Kit w0 cs rs W) : Kit w0 cs rs W.drew := K.since (Below.refl _ _).drew
theorem Kit.drewN {w0 W : World} {cs : List (Addr × Value)} {rs : List RowF} (K : Kit w0 cs rs W) (n : Nat) : Kit w0 cs rs (W.drewN n) := K.since ⟨rfl, rfl, rfl, Nat.le_refl _, fun _ _ => rfl⟩
/-- Fewer. -/
theorem Kit.sub {w0 W : World} {cs cs' : List (Addr × Value)} {rs rs' : List RowF} (K : Kit w0 cs rs W) (hc : ∀ p, p ∈ cs' → p ∈ cs) (hr : rs'.Sublist rs) : Kit w0 cs' rs' W :=
  ⟨K.bel, fun p h => K.cell p (hc p h), fun r h => K.row r (hr.subset h), fun r h => K.fresh r (hr.subset h), K.apart.sublist hr, fun p h r h' => K.off p (hc p h) r (hr.subset h')⟩
/-- A new row. -/
theorem Kit.add {w0 W W' : World} {cs : List (Addr × Value)} {rs : List RowF} {r : RowF} (K : Kit w0 cs rs W) (hb : Below W.heap.size W W') (h : r.on W') (hB : W.heap.size ≤ r.B) : Kit w0 cs (r :: rs) W' := by
  have K' := K.since hb
  refine ⟨K'.bel, K'.cell, ?_, ?_, ?_, ?_⟩
  · intro s hs
    rcases List.mem_cons.1 hs with rfl | hs
    · exact h
    · exact K'.row s hs
  · intro s hs
    rcases List.mem_cons.1 hs with rfl | hs
    · exact Nat.le_trans K.bel.size hB
    · exact K'.fresh s hs
  · refine List.pairwise_cons.2 ⟨fun s hs k e e' => ?_, K'.apart⟩
    have h1 := (h.lt k e).1
    have h2 := ((K.row s hs).lt k e').2
    omega
  · intro p hp s hs e
    rcases List.mem_cons.1 hs with rfl | hs
    · have h1 := (h.lt _ e).1
      have h2 := World.block_lt_of_cell? W p.1 (K.cell p hp)
      omega
    · exact K'.off p hp s hs e
/-- Two new rows of one call. -/
theorem Kit.add2 {w0 W W' : World} {cs : List (Addr × Value)} {rs : List RowF} {r s : RowF} (K : Kit w0 cs rs W) (hb : Below W.heap.size W W') (h : r.on W') (h' : s.on W') (hB : W.heap.size ≤ r.B) (hB' : W.heap.size ≤ s.B)
    (hd : ∀ k, r.v.ownBlock = some k → s.v.ownBlock ≠ some k) : Kit w0 cs (r :: s :: rs) W' := by
  have K1 := K.add hb h' hB'
  have K2 := K.add hb h hB
  refine ⟨K1.bel, K1.cell, ?_, ?_, ?_, ?_⟩
  · intro x hx
    rcases List.mem_cons.1 hx with rfl | hx
    · exact h
    · exact K1.row x hx
  · intro x hx
    rcases List.mem_cons.1 hx with rfl | hx
    · exact K2.fresh _ (.head _)
    · exact K1.fresh x hx
  · refine List.pairwise_cons.2 ⟨fun x hx => ?_, K1.apart⟩
    rcases List.mem_cons.1 hx with rfl | hx
    · exact hd
    · exact (List.pairwise_cons.1 K2.apart).1 x hx
  · intro p hp x hx
    rcases List.mem_cons.1 hx with rfl | hx
    · exact K2.off p hp _ (.head _)
    · exact K1.off p hp x hx
/-- New cells, at or beyond the world's end. -/
theorem Kit.cells {w0 W W' : World} {cs ds : List (Addr × Value)} {rs : List RowF} (K : Kit w0 cs rs W) (hb : Below W.heap.size W W') (hc : ∀ p, p ∈ ds → W'.cell? p.1 = some p.2) (hn : ∀ p, p ∈ ds → W.heap.size ≤ p.1.block) : Kit w0 (ds ++ cs) rs W' := by
  have K' := K.since hb
  refine ⟨K'.bel, ?_, K'.row, K'.fresh, K'.apart, ?_⟩
  · intro p hp
    rcases List.mem_append.1 hp with h | h
    · exact hc p h
    · exact K'.cell p h
  · intro p hp r hr e
    rcases List.mem_append.1 hp with h | h
    · have h1 := hn p h
      have h2 := ((K.row r hr).lt _ e).2
      omega
    · exact K'.off p h r hr e
/-- A row written over. -/
theorem Kit.mark {w0 W W' : World} {cs : List (Addr × Value)} {pre post : List RowF} {r r' : RowF} (K : Kit w0 cs (pre ++ r :: post) W) (hg : W.grownBy W' r.v.ownBlock) (h : r'.on W') (hv : r'.v = r.v) (hB : r'.B = r.B) : Kit w0 cs (pre ++ r' :: post) W' := by
  have hmem : ∀ s, s ∈ pre ++ r' :: post → s = r' ∨ (s ∈ pre ∨ s ∈ post) := fun s hs => by
    rcases List.mem_append.1 hs with hs | hs
    · exact .inr (.inl hs)
    · rcases List.mem_cons.1 hs with hs | hs
      · exact .inl hs
      · exact .inr (.inr hs)
  have hin : ∀ s, (s ∈ pre ∨ s ∈ post) → s ∈ pre ++ r :: post := fun s hs => by
    rcases hs with hs | hs
    · exact List.mem_append_left _ hs
    · exact List.mem_append_right _ (.tail _ hs)
  have hmid : r ∈ pre ++ r :: post := List.mem_append_right _ (.head _)
  have hap := List.pairwise_append.1 K.apart
  have hap2 := List.pairwise_cons.1 hap.2.1
  have hdis : ∀ s, (s ∈ pre ∨ s ∈ post) → ∀ k, r.v.ownBlock = some k → s.v.ownBlock ≠ some k := fun s hs k e e' => by
    rcases hs with hs | hs
    · exact hap.2.2 s hs r (.head _) k e' e
    · exact hap2.1 s hs k e e'
  refine ⟨K.bel.grown hg K.bel.size (fun k e => Nat.le_trans (K.fresh r hmid) ((K.row r hmid).lt k e).1), ?_, ?_, ?_, ?_, ?_⟩
  · exact fun p hp => hg.cell (K.cell p hp) (fun e => K.off p hp r hmid e.symm)
  · intro s hs
    rcases hmem s hs with rfl | hs
    · exact h
    · exact RowF.kept (K.row s (hin s hs)) hg (hdis s hs)
  · intro s hs
    rcases hmem s hs with rfl | hs
    · rw [hB]
      exact K.fresh r hmid
    · exact K.fresh s (hin s hs)
  · refine List.pairwise_append.2 ⟨hap.1, List.pairwise_cons.2 ⟨fun s hs => by rw [hv]; exact hap2.1 s hs, hap2.2⟩, fun s hs x hx => ?_⟩
    rcases List.mem_cons.1 hx with rfl | hx
    · rw [hv]
      exact hap.2.2 s hs r (.head _)
    · exact hap.2.2 s hs x (.tail _ hx)
  · intro p hp s hs
    rcases hmem s hs with rfl | hs
    · rw [hv]
      exact K.off p hp r hmid
    · exact K.off p hp s (hin s hs)
/-- A row that is let go, and written over. -/
theorem Kit.lose {w0 W W' : World} {cs : List (Addr × Value)} {rs : List RowF} {r : RowF} (K : Kit w0 cs (r :: rs) W) (hg : W.grownBy W' r.v.ownBlock) : Kit w0 cs rs W' := by
  have hap := List.pairwise_cons.1 K.apart
  refine ⟨K.bel.grown hg K.bel.size (fun k e => Nat.le_trans (K.fresh r (.head _)) ((K.row r (.head _)).lt k e).1), ?_, ?_, fun s hs => K.fresh s (.tail _ hs), hap.2, fun p hp s hs => K.off p hp s (.tail _ hs)⟩
  · exact fun p hp => hg.cell (K.cell p hp) (fun e => K.off p hp r (.head _) e.symm)
  · exact fun s hs => RowF.kept (K.row s (.tail _ hs)) hg (fun k e e' => hap.1 s hs k e e')
/-- The row at a place comes first. -/
theorem Kit.front {w0 W : World} {cs : List (Addr × Value)} {pre post : List RowF} {r : RowF} (K : Kit w0 cs (pre ++ r :: post) W) : Kit w0 cs (r :: (pre ++ post)) W := by
  have hap := List.pairwise_append.1 K.apart
  have hap2 := List.pairwise_cons.1 hap.2.1
  have hin : ∀ s, s ∈ r :: (pre ++ post) → s ∈ pre ++ r :: post := fun s hs => by
    rcases List.mem_cons.1 hs with rfl | hs
    · exact List.mem_append_right _ (.head _)
    · rcases List.mem_append.1 hs with hs | hs
      · exact List.mem_append_left _ hs
      · exact List.mem_append_right _ (.tail _ hs)
  refine ⟨K.bel, K.cell, fun s hs => K.row s (hin s hs), fun s hs => K.fresh s (hin s hs), List.pairwise_cons.2 ⟨fun s hs k e e' => ?_, List.pairwise_append.2 ⟨hap.1, hap2.2, fun s hs x hx => hap.2.2 s hs x (.tail _ hx)⟩⟩, fun p hp s hs => K.off p hp s (hin s hs)⟩
  rcases List.mem_append.1 hs with hs | hs
  · exact hap.2.2 s hs r (.head _) k e' e
  · exact hap2.1 s hs k e e'
end Go.Proofs.Ytgddobdpibnkeaa
