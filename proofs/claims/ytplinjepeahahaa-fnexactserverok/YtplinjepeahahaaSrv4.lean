
/- What the exact laws' helpers on servers do: szServer, toServer, eqServer. -/
import Derived.Test.YtplinjepeahahaaSrv3
namespace Go.Proofs.Ytplinjepeahahaa
open Go.RowKit

theorem hidOf' {p : Prop} (h : p) : Hid p := h
def szV (l : Int) (n m : Nat) : Int := if l - (n : Int) < 0 then -1 else if l - (n : Int) - (m : Int) < 0 then -1 else l - (n : Int) - (m : Int)
set_option maxHeartbeats 1000000 in
theorem szServer_any (ep : Int) (a a' : Option Addr) (n c m c' : Nat) (l : Int) (w : World) (hl : 0 ≤ l) (hl2 : l ≤ 1048576) (hn : n ≤ maxLen) (hm : m ≤ maxLen) :
    Calls Try.prog 9 #[svv ep (.slice a n c) (.slice a' m c'), .int .i64 l] w fun e w' => e = .returned (.int .i64 (szV l n m)) ∧ w' = w.alloc (lsvb ep (.slice a n c) (.slice a' m c')) := by
  by_cases h : l - (n : Int) < 0
  · have hif : (if l - (n : Int) < 0 then (-1 : Int) else l - (n : Int)) = -1 := if_pos h
    have HZ : Hid (szV l n m = -1) := if_pos h
    go_enter Try.func9, Try.ntmps9
    go_wp2_with fail
    refine (szInt64S_any _ _ _ _ _ hl hl2 hn).mono ?_
    rintro e w' ⟨rfl, hww⟩
    subst w'
    rw [hif]
    go_wp2
    go_ret
    exact ⟨by rw [HZ.out]; rfl, rfl⟩
  · have hif : (if l - (n : Int) < 0 then (-1 : Int) else l - (n : Int)) = l - (n : Int) := if_neg h
    by_cases h2 : l - (n : Int) - (m : Int) < 0
    · have hif2 : (if l - (n : Int) - (m : Int) < 0 then (-1 : Int) else l - (n : Int) - (m : Int)) = -1 := if_pos h2
      have HZ : Hid (szV l n m = -1) := by show szV l n m = -1; unfold szV; rw [if_neg h, if_pos h2]
      go_enter Try.func9, Try.ntmps9
      go_wp2_with fail
      refine (szInt64S_any _ _ _ _ _ hl hl2 hn).mono ?_
      rintro e w' ⟨rfl, hww⟩
      subst w'
      rw [hif]
      go_wp2_with fail
      refine (szSeatS_any _ _ _ _ _ (by omega) (by omega) hm).mono ?_
      rintro e w' ⟨rfl, hww⟩
      subst w'
      rw [hif2]
      go_wp2
      go_ret
      exact ⟨by rw [HZ.out]; rfl, rfl⟩
    · have hif2 : (if l - (n : Int) - (m : Int) < 0 then (-1 : Int) else l - (n : Int) - (m : Int)) = l - (n : Int) - (m : Int) := if_neg h2
      have HZ : Hid (szV l n m = l - (n : Int) - (m : Int)) := by show szV l n m = _; unfold szV; rw [if_neg h, if_neg h2]
      go_enter Try.func9, Try.ntmps9
      go_wp2_with fail
      refine (szInt64S_any _ _ _ _ _ hl hl2 hn).mono ?_
      rintro e w' ⟨rfl, hww⟩
      subst w'
      rw [hif]
      go_wp2_with fail
      refine (szSeatS_any _ _ _ _ _ (by omega) (by omega) hm).mono ?_
      rintro e w' ⟨rfl, hww⟩
      subst w'
      rw [hif2]
      go_wp2
      go_ret
      exact ⟨by rw [HZ.out]; rfl, rfl⟩

/-- A server, as an answer: its numbers and its seats lie in memory of their own, apart. -/
def SrvIs (B : Nat) (x y : Value) (vs : List Int) (ss : List (Int × Int)) (W : World) : Prop := Ints B x vs W ∧ Seats B y ss W ∧ ∀ k, x.ownBlock = some k → y.ownBlock ≠ some k
theorem SrvIs.since {B : Nat} {x y : Value} {vs : List Int} {ss : List (Int × Int)} {W W' : World} (h : SrvIs B x y vs ss W) (hb : Below W.heap.size W W') : SrvIs B x y vs ss W' := ⟨h.1.since hb, h.2.1.since hb, h.2.2⟩

set_option maxHeartbeats 2000000 in
theorem toServer_any (ep : Int) (x y : Value) (vs : List Int) (ss : List (Int × Int)) (w : World) (hx : InInts x vs w) (hy : InSeats y ss w) (hn : vs.length ≤ 1048576) (hn2 : ss.length ≤ 1048576) :
    Calls Try.prog 11 #[svv ep x y] w fun e w' => ∃ x' y', e = .returned (svv ep x' y') ∧ SrvIs w.heap.size x' y' vs ss w' ∧ Below w.heap.size w w' := by
  have hB0 : Below w.heap.size w (((w.alloc (lsvb ep x y)).alloc (svb 0 (.slice none 0 0) (.slice none 0 0))).alloc (svb ep (.slice none 0 0) (.slice none 0 0))) := (two_below w _ _).alloc (by simp; omega) _
  have b1 : (((w.alloc (lsvb ep x y)).alloc (svb 0 (.slice none 0 0) (.slice none 0 0))).alloc (svb ep (.slice none 0 0) (.slice none 0 0))).heap[w.heap.size + 1]? = some (svb 0 (.slice none 0 0) (.slice none 0 0)) := by
    rw [Below.heap_alloc _ _ _ (by simp)]
    have := heap_alloc_new (w.alloc (lsvb ep x y)) (svb 0 (.slice none 0 0) (.slice none 0 0))
    simpa using this
  have b2 : (((w.alloc (lsvb ep x y)).alloc (svb 0 (.slice none 0 0) (.slice none 0 0))).alloc (svb ep (.slice none 0 0) (.slice none 0 0))).heap[w.heap.size + 1 + 1]? = some (svb ep (.slice none 0 0) (.slice none 0 0)) := by
    have := heap_alloc_new ((w.alloc (lsvb ep x y)).alloc (svb 0 (.slice none 0 0) (.slice none 0 0))) (svb ep (.slice none 0 0) (.slice none 0 0))
    simpa using this
  have b0 : (((w.alloc (lsvb ep x y)).alloc (svb 0 (.slice none 0 0) (.slice none 0 0))).alloc (svb ep (.slice none 0 0) (.slice none 0 0))).heap[w.heap.size]? = some (lsvb ep x y) := by
    rw [Below.heap_alloc _ _ _ (by simp; omega), Below.heap_alloc _ _ _ (by simp)]
    exact heap_alloc_new w _
  have hs0 : (((w.alloc (lsvb ep x y)).alloc (svb 0 (.slice none 0 0) (.slice none 0 0))).alloc (svb ep (.slice none 0 0) (.slice none 0 0))).heap.size = w.heap.size + 1 + 1 + 1 := by simp
  have HX : Hid (InInts x vs w) := hx
  have HY : Hid (InSeats y ss w) := hy
  obtain ⟨ay, cy, hvy, _⟩ := hy.len
  subst hvy
  clear hx hy
  go_enter Try.func11, Try.ntmps11
  go_wp2_with fail
  generalize ((w.alloc (lsvb ep x (.slice ay ss.length cy))).alloc (svb 0 (.slice none 0 0) (.slice none 0 0))).alloc (svb ep (.slice none 0 0) (.slice none 0 0)) = w0 at hB0 b0 b1 b2 hs0 ⊢
  refine (toInt64S_any x vs w0 (HX.out.below hB0 (Nat.le_refl _)) hn).mono ?_
  rintro e w2 ⟨x', rfl, _, k2, hb2⟩
  have d0 := (hb2.block w.heap.size (by omega)).trans b0
  have d1 := (hb2.block (w.heap.size + 1) (by omega)).trans b1
  have d2 := (hb2.block (w.heap.size + 1 + 1) (by omega)).trans b2
  have hB2 := more hB0 hb2
  have hsz := hb2.size
  have hlt := k2.lt
  have g0 := blk' (grown_set w2 (w.heap.size + 1 + 1) 1 x') d0 (by omega)
  have g1 := blk' (grown_set w2 (w.heap.size + 1 + 1) 1 x') d1 (by omega)
  have g2 := box3_set1 d2 x'
  have hB3 : Below w.heap.size w (w2.setCell ⟨w.heap.size + 1 + 1, 1, none⟩ x') := hB2.setCell (by simp; omega) _
  have K3 : Hid (Ints w0.heap.size x' vs (w2.setCell ⟨w.heap.size + 1 + 1, 1, none⟩ x')) := k2.kept (grown_set _ _ _ _) (fun k e e' => by cases e; have := (hlt _ e').1; omega)
  have hs3 : (w2.setCell ⟨w.heap.size + 1 + 1, 1, none⟩ x').heap.size = w2.heap.size := by simp [World.setCell]
  obtain ⟨⟨p0, p1, p2⟩, f0, f1, f2⟩ := box3 d2
  obtain ⟨⟨q0, q1, q2⟩, e0, e1, e2⟩ := box3 d0
  obtain ⟨a', c', hv', _, _⟩ := k2.row
  clear b0 b1 b2 d0 d1 d2 hb2 hB0 hB2 HX k2
  subst hv'
  go_wp2_with fail
  generalize w2.setCell ⟨w.heap.size + 1 + 1, 1, none⟩ (.slice a' vs.length c') = w3 at *
  clear p0 p1 p2 f0 f1 f2 q0 q1 q2 e0 e1 e2
  refine (toSeatS_any _ ss w3 (HY.out.below hB3 (Nat.le_refl _)) hn2).mono ?_
  rintro e w4 ⟨y', rfl, _, k4, hb4⟩
  have d1 := (hb4.block (w.heap.size + 1) (by omega)).trans g1
  have d2 := (hb4.block (w.heap.size + 1 + 1) (by omega)).trans g2
  have hB4 := more hB3 hb4
  have K4 := K3.out.since hb4
  have hlt4 := k4.lt
  have hap : ∀ k, (Value.slice a' vs.length c').ownBlock = some k → y'.ownBlock ≠ some k := fun k e e' => by have := (K3.out.lt k e).2; have := (hlt4 k e').1; omega
  obtain ⟨⟨p0, p1, p2⟩, f0, f1, f2⟩ := box3 d2
  obtain ⟨⟨q0, q1, q2⟩, e0, e1, e2⟩ := box3 d1
  obtain ⟨a4, c4, hv4, _, _⟩ := k4.row
  generalize hX' : Value.slice a' vs.length c' = X' at *
  have HF : Hid (((((w4.setCell ⟨w.heap.size + 1 + 1, 2, none⟩ y').setCell ⟨w.heap.size + 1, 0, none⟩ (.int .i64 ep)).setCell ⟨w.heap.size + 1, 1, none⟩ X').setCell ⟨w.heap.size + 1, 2, none⟩ y').heap[w.heap.size + 1]? = some (svb ep X' y')) := box3_set2 (box3_set1 (box3_set0 (blk' (grown_set _ _ _ _) d1 (by omega)) _) _) _
  have HB : Hid (Below w.heap.size w ((((w4.setCell ⟨w.heap.size + 1 + 1, 2, none⟩ y').setCell ⟨w.heap.size + 1, 0, none⟩ (.int .i64 ep)).setCell ⟨w.heap.size + 1, 1, none⟩ X').setCell ⟨w.heap.size + 1, 2, none⟩ y')) := (((hB4.setCell (by simp; omega) _).setCell (by simp) _).setCell (by simp) _).setCell (by simp) _
  have HKx : Hid (Ints w.heap.size X' vs ((((w4.setCell ⟨w.heap.size + 1 + 1, 2, none⟩ y').setCell ⟨w.heap.size + 1, 0, none⟩ (.int .i64 ep)).setCell ⟨w.heap.size + 1, 1, none⟩ X').setCell ⟨w.heap.size + 1, 2, none⟩ y')) :=
    ((((K4.mono (by omega)).kept (grown_set _ _ _ _) (fun k e e' => by cases e; have := (hlt _ e').1; omega)).kept (grown_set _ _ _ _) (fun k e e' => by cases e; have := (hlt _ e').1; omega)).kept (grown_set _ _ _ _) (fun k e e' => by cases e; have := (hlt _ e').1; omega)).kept (grown_set _ _ _ _) (fun k e e' => by cases e; have := (hlt _ e').1; omega)
  have HKy : Hid (Seats w.heap.size y' ss ((((w4.setCell ⟨w.heap.size + 1 + 1, 2, none⟩ y').setCell ⟨w.heap.size + 1, 0, none⟩ (.int .i64 ep)).setCell ⟨w.heap.size + 1, 1, none⟩ X').setCell ⟨w.heap.size + 1, 2, none⟩ y')) :=
    ((((k4.mono (by omega)).kept (grown_set _ _ _ _) (fun k e e' => by cases e; have := (hlt4 _ e').1; omega)).kept (grown_set _ _ _ _) (fun k e e' => by cases e; have := (hlt4 _ e').1; omega)).kept (grown_set _ _ _ _) (fun k e e' => by cases e; have := (hlt4 _ e').1; omega)).kept (grown_set _ _ _ _) (fun k e e' => by cases e; have := (hlt4 _ e').1; omega)
  have HA : Hid (∀ k, X'.ownBlock = some k → y'.ownBlock ≠ some k) := hap
  clear d1 d2 hB3 hB4 hlt hlt4 K3 K4 k4 hb4 hap g0 g1 g2
  subst hX' hv4
  go_wp2
  have bF := HF.out
  have gB := HB.out
  have gX := HKx.out
  have gY := HKy.out
  clear HF HB HKx HKy
  generalize (((w4.setCell ⟨w.heap.size + 1 + 1, 2, none⟩ (.slice a4 ss.length c4)).setCell ⟨w.heap.size + 1, 0, none⟩ (.int .i64 ep)).setCell ⟨w.heap.size + 1, 1, none⟩ (.slice a' vs.length c')).setCell ⟨w.heap.size + 1, 2, none⟩ (.slice a4 ss.length c4) = WF at bF gB gX gY ⊢
  obtain ⟨⟨z0, z1, z2⟩, _, _, _⟩ := box3 bF
  exact bodyPost_ret (v := svv ep (.slice a' vs.length c') (.slice a4 ss.length c4)) (by simp [results, Try.results11, go_sem, z0, z1, z2]) rfl ⟨_, _, rfl, ⟨gX, gY, HA.out⟩, gB⟩

def sameS (ep : Int) (vs : List Int) (ss : List (Int × Int)) (ep' : Int) (vs' : List Int) (ss' : List (Int × Int)) : Bool := decide (ep = ep') && (eqI vs vs' && eqL ss ss')
theorem sameS_self (ep : Int) (vs : List Int) (ss : List (Int × Int)) : sameS ep vs ss ep vs ss = true := by simp [sameS, eqI, eqL]

set_option maxHeartbeats 1000000 in
theorem eqServer_any {B C B' C' : Nat} {x y x' y' : Value} {vs vs' : List Int} {ss ss' : List (Int × Int)} {w : World} (ep ep' : Int) (hx : Ints B x vs w) (hy : Seats C y ss w) (hx' : Ints B' x' vs' w) (hy' : Seats C' y' ss' w) :
    Calls Try.prog 13 #[svv ep x y, svv ep' x' y'] w fun e w' => e = .returned (.bool (sameS ep vs ss ep' vs' ss')) ∧ Below w.heap.size w w' := by
  have hB2 := two_below w (svb ep x y) (svb ep' x' y')
  obtain ⟨c0, c1, c2⟩ := scell3 w ep x y
  have d0 := cell_since c0 (one_below _ (svb ep' x' y'))
  have d1 := cell_since c1 (one_below _ (svb ep' x' y'))
  have d2 := cell_since c2 (one_below _ (svb ep' x' y'))
  obtain ⟨p0, p1, p2⟩ := scell3 (w.alloc (svb ep x y)) ep' x' y'
  have HX : Hid (Ints B x vs ((w.alloc (svb ep x y)).alloc (svb ep' x' y'))) := hx.since hB2
  have HY : Hid (Seats C y ss ((w.alloc (svb ep x y)).alloc (svb ep' x' y'))) := hy.since hB2
  have HX' : Hid (Ints B' x' vs' ((w.alloc (svb ep x y)).alloc (svb ep' x' y'))) := hx'.since hB2
  have HY' : Hid (Seats C' y' ss' ((w.alloc (svb ep x y)).alloc (svb ep' x' y'))) := hy'.since hB2
  clear c0 c1 c2 hx hy hx' hy'
  simp only [World.size_alloc] at p0 p1 p2
  by_cases h1 : ep = ep'
  · have h1' : (ep == ep') = true := by simpa using h1
    subst h1
    have HS : Hid (sameS ep vs ss ep vs' ss' = (eqI vs vs' && eqL ss ss')) := by show sameS ep vs ss ep vs' ss' = _; simp [sameS]
    go_enter Try.func13, Try.ntmps13
    go_wp2_with fail
    generalize (w.alloc (svb ep x y)).alloc (svb ep x' y') = w1 at *
    refine (eqInt64S_any HX.out HX'.out).mono ?_
    rintro e w2 ⟨rfl, q, hw2⟩
    have b2 : Below w1.heap.size w1 w2 := by rw [hw2]; exact below_drewN2 (Below.refl _ _) _
    clear hw2
    have d2 := cell_since d2 b2
    have p2 := cell_since p2 b2
    have HB : Hid (Below w.heap.size w w2) := more hB2 b2
    have HY := hidOf' (HY.out.since b2)
    have HY' := hidOf' (HY'.out.since b2)
    cases hq : eqI vs vs' with
    | false =>
      go_wp2
      go_ret
      exact ⟨by rw [HS.out, hq]; rfl, HB.out⟩
    | true =>
      go_wp2_with fail
      refine (eqSeatS_any HY.out HY'.out).mono ?_
      rintro e w3 ⟨rfl, b3⟩
      have HB3 : Hid (Below w.heap.size w w3) := more HB.out b3
      cases hq2 : eqL ss ss' with
      | false =>
        go_wp2
        go_ret
        exact ⟨by rw [HS.out, hq, hq2]; rfl, HB3.out⟩
      | true =>
        go_wp2
        go_ret
        exact ⟨by rw [HS.out, hq, hq2]; rfl, HB3.out⟩
  · have h1' : (ep == ep') = false := by simpa using h1
    have HS : Hid (sameS ep vs ss ep' vs' ss' = false) := by show sameS ep vs ss ep' vs' ss' = _; simp [sameS, h1]
    go_enter Try.func13, Try.ntmps13
    go_wp2
    go_ret
    exact ⟨by rw [HS.out]; rfl, hB2⟩
end Go.Proofs.Ytplinjepeahahaa
