
/- Marks on servers; MembersOf of the program and of the model. -/
import Derived.Test.YtplinjepeahahaaMarkS
namespace Go.Proofs.Ytplinjepeahahaa
open Go.RowKit

set_option maxHeartbeats 1000000 in
theorem markServer_any {B : Nat} {x y : Value} {vs : List Int} {ss : List (Int × Int)} {w : World} (ep k : Int) (h : SrvIs B x y vs ss w) (hk : 0 ≤ k) (hs : k + vs.length + 2 * ss.length ≤ 4611686018427387904) :
    Calls Try.prog 16 #[svv ep x y, .int .i64 k] w fun e w' => e = .returned (.int .i64 (k + vs.length + 2 * ss.length)) ∧ SrvIs B x y (marks k vs.length) (smarks (k + vs.length) ss.length) w' ∧ ∃ w1, w.grownBy w1 x.ownBlock ∧ w1.grownBy w' y.ownBlock := by
  have hB1 := one_below w (svb ep x y)
  obtain ⟨c0, c1, c2⟩ := scell3 w ep x y
  have H1 : Hid (SrvIs B x y vs ss (w.alloc (svb ep x y))) := h.since hB1
  have hlx : ∀ j, x.ownBlock = some j → j < w.heap.size := fun j e => (h.1.lt j e).2
  have hly : ∀ j, y.ownBlock = some j → j < w.heap.size := fun j e => (h.2.1.lt j e).2
  have hG : w.grownBy (w.alloc (svb ep x y)) x.ownBlock := World.grownBy_alloc _ _ _
  clear h
  go_enter Try.func16, Try.ntmps16
  go_wp2_with fail
  generalize w.alloc (svb ep x y) = w1 at *
  refine (markInt64S_any k H1.out.1 hk (by omega)).mono ?_
  rintro e w2 ⟨rfl, m2, g2⟩
  have d2 : w2.cell? ⟨w.heap.size, 2, none⟩ = some y := g2.cell c2 (fun e => by have := hlx _ e.symm; simp at this)
  have s2 : Seats B y ss w2 := H1.out.2.1.kept g2 (fun j e e' => H1.out.2.2 j e e')
  have HA : Hid (∀ j, x.ownBlock = some j → y.ownBlock ≠ some j) := H1.out.2.2
  have HG : Hid (w.grownBy w2 x.ownBlock) := hG.trans g2
  have M2 : Hid (Ints B x (marks k vs.length) w2) := m2
  clear m2 g2 hG H1 c0 c1 c2
  go_wp2_with fail
  refine (markSeatS_any _ s2 (by omega) (by omega)).mono ?_
  rintro e w3 ⟨rfl, m3, g3⟩
  have M3 : Hid (Ints B x (marks k vs.length) w3) := M2.out.kept g3 (fun j e e' => HA.out j e' e)
  have HM : Hid (Seats B y (smarks (k + vs.length) ss.length) w3) := m3
  have HG3 : Hid (w2.grownBy w3 y.ownBlock) := g3
  clear m3 g3 M2 s2 d2
  go_wp2
  go_ret
  exact ⟨rfl, ⟨M3.out, HM.out, HA.out⟩, w2, HG.out, HG3.out⟩

set_option maxHeartbeats 1000000 in
theorem heldServer_any {B : Nat} {x y : Value} {w : World} (ep k : Int) (n m : Nat) (h : SrvIs B x y (marks k n) (smarks (k + n) m) w) (hk : 0 ≤ k) (hs : k + n + 2 * m ≤ 4611686018427387904) :
    Calls Try.prog 17 #[svv ep x y, .int .i64 k] w fun e w' => e = .returned (.int .i64 (k + n + 2 * m)) ∧ Below w.heap.size w w' := by
  have hB1 := one_below w (svb ep x y)
  obtain ⟨c0, c1, c2⟩ := scell3 w ep x y
  have H1 : Hid (SrvIs B x y (marks k n) (smarks (k + n) m) (w.alloc (svb ep x y))) := h.since hB1
  have hge : ¬ k + (n : Int) < 0 := by omega
  have hge2 : ¬ k + (n : Int) + 2 * (m : Int) < 0 := by omega
  clear h
  go_enter Try.func17, Try.ntmps17
  go_wp2_with fail
  generalize w.alloc (svb ep x y) = w1 at *
  refine (heldInt64S_any k n H1.out.1 hk (by omega)).mono ?_
  rintro e w' ⟨rfl, hww⟩
  subst w'
  have H2 : Hid (SrvIs B x y (marks k n) (smarks (k + n) m) w1) := H1.out
  have HB : Hid (Below w.heap.size w w1) := hB1
  go_wp2_with fail
  refine (heldSeatS_any (k + n) m H2.out.2.1 (by omega) (by omega)).mono ?_
  rintro e w' ⟨rfl, hww⟩
  subst w'
  go_wp2
  go_ret
  exact ⟨rfl, HB.out⟩
end Go.Proofs.Ytplinjepeahahaa
