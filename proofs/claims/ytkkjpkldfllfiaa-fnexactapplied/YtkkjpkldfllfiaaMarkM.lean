
/- Marks on members. -/
import Derived.Test.YtkkjpkldfllfiaaMarkKb
import Derived.Test.YtkkjpkldfllfiaaCpy
namespace Go.Proofs.Ytkkjpkldfllfiaa
open Go.RowKit

set_option maxHeartbeats 1000000 in
theorem markMember_any {B : Nat} {a : Option Addr} {n c : Nat} {ks : List (Int × Int)} {w : World} (id ep k : Int) (h : Keys B (.slice a n c) ks w) (hn : ks.length = n) (hk : 0 ≤ k) (hs : k + 2 * n ≤ 4611686018427387904) :
    Calls Try.prog 41 #[mv id ep (.slice a n c), .int .i64 k] w fun e w' => e = .returned (.int .i64 (k + 2 * n)) ∧ Keys B (.slice a n c) (kmarks k n) w' ∧ w.grownBy w' (Value.slice a n c).ownBlock := by
  obtain ⟨c0, c1, c2⟩ := cell3 w id ep (.slice a n c)
  have hB1 := one_below w (mb id ep (.slice a n c))
  have hG : w.grownBy (w.alloc (mb id ep (.slice a n c))) (Value.slice a n c).ownBlock := World.grownBy_alloc _ _ _
  have H1 := hidC (keysSince h hB1)
  clear h
  go_enter Try.func41, Try.ntmps41
  go_wp2_with fail
  generalize w.alloc (mb id ep (.slice a n c)) = w1 at *
  refine (markKeyS_any k H1.out hk (by rw [hn]; exact hs)).mono ?_
  rw [hn]
  rintro e w2 ⟨rfl, m2, g2⟩
  have M2 := hidC m2
  have HG := hidC (hG.trans g2)
  clear m2 g2 hG H1 c0 c1 c2
  go_wp2
  go_ret
  exact ⟨rfl, M2.out, HG.out⟩

set_option maxHeartbeats 1000000 in
theorem heldMember_any {B : Nat} {a : Option Addr} {n c : Nat} {w : World} (id ep k : Int) (h : Keys B (.slice a n c) (kmarks k n) w) (hk : 0 ≤ k) (hs : k + 2 * n ≤ 4611686018427387904) :
    Calls Try.prog 43 #[mv id ep (.slice a n c), .int .i64 k] w fun e w' => e = .returned (.int .i64 (k + 2 * n)) ∧ Below w.heap.size w w' := by
  obtain ⟨c0, c1, c2⟩ := cell3 w id ep (.slice a n c)
  have hB1 := one_below w (mb id ep (.slice a n c))
  have H1 := hidC (keysSince h hB1)
  clear h
  go_enter Try.func43, Try.ntmps43
  go_wp2_with fail
  generalize w.alloc (mb id ep (.slice a n c)) = w1 at *
  refine (heldKeyS_any k n H1.out hk hs).mono ?_
  rintro e w2 ⟨rfl, hww⟩
  subst hww
  have hge : ¬ k + 2 * (n : Int) < 0 := by omega
  go_wp2
  go_ret
  exact ⟨rfl, hB1⟩
end Go.Proofs.Ytkkjpkldfllfiaa
