
/- What the exact laws' helpers on servers do: szServer, toServer, eqServer. -/
import Derived.Test.YtplinjepeahahabSrv3
namespace Go.Proofs.Ytplinjepeahahab
open Go.RowKit

theorem hidOf' {p : Prop} (h : p) : Hid p := h
def szV (l : Int) (n m : Nat) : Int := if l - (n : Int) < 0 then -1 else if l - (n : Int) - (m : Int) < 0 then -1 else l - (n : Int) - (m : Int)
/-- A server, as an answer: its numbers and its seats lie in memory of their own, apart. -/
def SrvIs (B : Nat) (x y : Value) (vs : List Int) (ss : List (Int × Int)) (W : World) : Prop := Ints B x vs W ∧ Seats B y ss W ∧ ∀ k, x.ownBlock = some k → y.ownBlock ≠ some k
theorem SrvIs.since {B : Nat} {x y : Value} {vs : List Int} {ss : List (Int × Int)} {W W' : World} (h : SrvIs B x y vs ss W) (hb : Below W.heap.size W W') : SrvIs B x y vs ss W' := ⟨h.1.since hb, h.2.1.since hb, h.2.2⟩

def sameS (ep : Int) (vs : List Int) (ss : List (Int × Int)) (ep' : Int) (vs' : List Int) (ss' : List (Int × Int)) : Bool := decide (ep = ep') && (eqI vs vs' && eqL ss ss')
theorem sameS_self (ep : Int) (vs : List Int) (ss : List (Int × Int)) : sameS ep vs ss ep vs ss = true := by simp [sameS, eqI, eqL]

set_option maxHeartbeats 1000000 in
theorem eqServer_any {B C B' C' : Nat} {x y x' y' : Value} {vs vs' : List Int} {ss ss' : List (Int × Int)} {w : World} (ep ep' : Int) (hx : Ints B x vs w) (hy : Seats C y ss w) (hx' : Ints B' x' vs' w) (hy' : Seats C' y' ss' w) :
    Calls Try.prog 25 #[svv ep x y, svv ep' x' y'] w fun e w' => e = .returned (.bool (sameS ep vs ss ep' vs' ss')) ∧ Below w.heap.size w w' := by
  have hB2 := two_below w (svb ep x y) (svb ep' x' y')
  obtain ⟨c0, c1, c2⟩ := scell3 w ep x y
  have d0 := cell_since c0 (one_below _ (svb ep' x' y'))
  have d1 := cell_since c1 (one_below _ (svb ep' x' y'))
  have d2 := cell_since c2 (one_below _ (svb ep' x' y'))
  obtain ⟨p0, p1, p2⟩ := scell3 (w.alloc (svb ep x y)) ep' x' y'
  have HX : Hid (Ints B x vs ((w.alloc (svb ep x y)).alloc (svb ep' x' y'))) := hx.since hB2
  have HY : Hid (Seats C y ss ((w.alloc (svb ep x y)).alloc (svb ep' x' y'))) := hy.since hB2
  have HX' : Hid (Ints B' x' vs' ((w.alloc (svb ep x y)).alloc (svb ep' x' y'))) := hx'.since hB2
  have HY' : Hid (Seats C' y' ss' ((w.alloc (svb ep x y)).alloc (svb ep' x' y'))) := hy'.since hB2
  clear c0 c1 c2 hx hy hx' hy'
  simp only [World.size_alloc] at p0 p1 p2
  by_cases h1 : ep = ep'
  · have h1' : (ep == ep') = true := by simpa using h1
    subst h1
    have HS : Hid (sameS ep vs ss ep vs' ss' = (eqI vs vs' && eqL ss ss')) := by show sameS ep vs ss ep vs' ss' = _; simp [sameS]
    go_enter Try.func25, Try.ntmps25
    go_wp2_with fail
    generalize (w.alloc (svb ep x y)).alloc (svb ep x' y') = w1 at *
    refine (eqInt64S_any HX.out HX'.out).mono ?_
    rintro e w2 ⟨rfl, q, hw2⟩
    have b2 : Below w1.heap.size w1 w2 := by rw [hw2]; exact below_drewN2 (Below.refl _ _) _
    clear hw2
    have d2 := cell_since d2 b2
    have p2 := cell_since p2 b2
    have HB : Hid (Below w.heap.size w w2) := more hB2 b2
    have HY := hidOf' (HY.out.since b2)
    have HY' := hidOf' (HY'.out.since b2)
    cases hq : eqI vs vs' with
    | false =>
      go_wp2
      go_ret
      exact ⟨by rw [HS.out, hq]; rfl, HB.out⟩
    | true =>
      go_wp2_with fail
      refine (eqSeatS_any HY.out HY'.out).mono ?_
      rintro e w3 ⟨rfl, b3⟩
      have HB3 : Hid (Below w.heap.size w w3) := more HB.out b3
      cases hq2 : eqL ss ss' with
      | false =>
        go_wp2
        go_ret
        exact ⟨by rw [HS.out, hq, hq2]; rfl, HB3.out⟩
      | true =>
        go_wp2
        go_ret
        exact ⟨by rw [HS.out, hq, hq2]; rfl, HB3.out⟩
  · have h1' : (ep == ep') = false := by simpa using h1
    have HS : Hid (sameS ep vs ss ep' vs' ss' = false) := by show sameS ep vs ss ep' vs' ss' = _; simp [sameS, h1]
    go_enter Try.func25, Try.ntmps25
    go_wp2
    go_ret
    exact ⟨by rw [HS.out]; rfl, hB2⟩
end Go.Proofs.Ytplinjepeahahab
