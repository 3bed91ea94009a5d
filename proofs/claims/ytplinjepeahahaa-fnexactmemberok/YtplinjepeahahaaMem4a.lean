
/- The laws' comparison of two members; the root's key of keys, GroupKeyOf of the program and of the model. -/
import Derived.Test.YtplinjepeahahaaMem3
namespace Go.Proofs.Ytplinjepeahahaa
open Go.RowKit

set_option maxHeartbeats 1000000 in
theorem eqMember_any {B C : Nat} {u v : Value} {ks ks' : List (Int × Int)} {w : World} (id ep id' ep' : Int) (hx : Keys B u ks w) (hy : Keys C v ks' w) :
    Calls Try.prog 35 #[mv id ep u, mv id' ep' v] w fun e w' => e = .returned (.bool (sameM id ep ks id' ep' ks')) ∧ Below w.heap.size w w' := by
  have hB2 := two_below w (mb id ep u) (mb id' ep' v)
  obtain ⟨c0, c1, c2⟩ := cell3 w id ep u
  have d0 := cell_since c0 (one_below _ (mb id' ep' v))
  have d1 := cell_since c1 (one_below _ (mb id' ep' v))
  have d2 := cell_since c2 (one_below _ (mb id' ep' v))
  obtain ⟨p0, p1, p2⟩ := cell3 (w.alloc (mb id ep u)) id' ep' v
  have HX : Hid (Keys B u ks ((w.alloc (mb id ep u)).alloc (mb id' ep' v))) := since hx hB2
  have HY : Hid (Keys C v ks' ((w.alloc (mb id ep u)).alloc (mb id' ep' v))) := since hy hB2
  clear c0 c1 c2 hx hy
  simp only [World.size_alloc] at p0 p1 p2
  by_cases h1 : id = id'
  · have h1' : (id == id') = true := by simpa using h1
    subst h1
    by_cases h2 : ep = ep'
    · have h2' : (ep == ep') = true := by simpa using h2
      subst h2
      have HS : Hid (sameM id ep ks id ep ks' = eqL ks ks') := by show sameM id ep ks id ep ks' = _; simp [sameM]
      go_enter Try.func35, Try.ntmps35
      go_wp2_with fail
      refine (eqKeyS_any HX.out HY.out).mono ?_
      rintro e w2 ⟨rfl, b2⟩
      have HB : Hid (Below w.heap.size w w2) := more hB2 b2
      clear HX HY d0 d1 d2 p0 p1 p2
      cases hq : eqL ks ks' with
      | true =>
        go_wp2
        go_ret
        exact ⟨by rw [HS.out, hq]; rfl, HB.out⟩
      | false =>
        go_wp2
        go_ret
        exact ⟨by rw [HS.out, hq]; rfl, HB.out⟩
    · have h2' : (ep == ep') = false := by simpa using h2
      have HS : Hid (sameM id ep ks id ep' ks' = false) := by show sameM id ep ks id ep' ks' = _; simp [sameM, h2]
      go_enter Try.func35, Try.ntmps35
      go_wp2
      go_ret
      exact ⟨by rw [HS.out]; rfl, hB2⟩
  · have h1' : (id == id') = false := by simpa using h1
    have HS : Hid (sameM id ep ks id' ep' ks' = false) := by show sameM id ep ks id' ep' ks' = _; simp [sameM, h1]
    go_enter Try.func35, Try.ntmps35
    go_wp2
    go_ret
    exact ⟨by rw [HS.out]; rfl, hB2⟩
theorem sameM_self (id ep : Int) (ks : List (Int × Int)) : sameM id ep ks id ep ks = true := by simp [sameM, eqL]

/-- The root's key of keys that rise. -/
def rootB (ks : List (Int × Int)) : Bool := decide (0 < ks.length) && decide ((kAt ks 0).1 = 1)
def rootK (ks : List (Int × Int)) : Int × Int := if rootB ks = true then kAt ks 0 else (0, 0)

end Go.Proofs.Ytplinjepeahahaa
