
/- The contracts of CanLearn, of the program and of the model. -/
import Derived.Test.YtkkjpkldfllfiaaCl
import Derived.Test.YtkkjpkldfllfiaaKw
import Derived.Deep.RegionHeld3
namespace Go.Proofs.Ytkkjpkldfllfiaa
open Go.RowKit

set_option maxHeartbeats 1000000 in
theorem specCanLearn_any {B C : Nat} {kx wx : Value} {ks : List K2} {ws : List W4} {w : World} (x y : Int) (hk : Keys B kx ks w) (hw : Wraps C wx ws w) :
    Calls Try.prog 21 #[kx, wx, kv x y] w fun e w' => ∃ out, LrnOut ks ws out ∧ e = .returned (.bool (decide ((x, y) ∈ out))) ∧ Below w.heap.size w w' := by
  have c1 : (w.alloc (kb x y)).cell? ⟨w.heap.size, 0, none⟩ = some (.int .i64 x) := by simp
  have c2 : (w.alloc (kb x y)).cell? ⟨w.heap.size, 1, none⟩ = some (.int .i64 y) := by simp
  have hT : KwT B C kx wx ks ws w (w.alloc (kb x y)) := KwT.later ⟨hk, hw, Below.refl _ _⟩ (one_below _ _)
  clear hk hw
  go_enter Try.func21, Try.ntmps21
  go_wp2
  generalize w.alloc (kb x y) = w1 at c1 c2 hT ⊢
  have hTd : KwT B C kx wx ks ws w w1.drew := hT.later (Below.refl _ _).drew
  go_region_held3 (fun W => W.cell? ⟨w.heap.size, 0, none⟩ = some (.int .i64 x) ∧ W.cell? ⟨w.heap.size, 1, none⟩ = some (.int .i64 y) ∧ KwT B C kx wx ks ws w W)
    (first | exact ⟨c1, c2, hT.later (Below.refl _ _).drew⟩ | assumption | exact keepKw ‹_› hb2 | exact keepKw ‹_› hb)
    (first | (go_at_call 13; refine (specLearned_any hTd.1 hTd.2.1).mono ?_; rintro e wk ⟨v, out, rfl, hfew, hI, hL, hb⟩) | (go_at_call 62; refine (l2Has_any x y hI.arg hI.len_le).mono ?_; rintro e wh ⟨rfl, hb2⟩))
  rename_i hHeld
  have hBf := hHeld.2.2.2.2
  clear hHeld
  go_wp2
  go_ret
  exact ⟨out, hL, rfl, hBf⟩

set_option maxHeartbeats 1000000 in
theorem canLearn_any {B C : Nat} {kx wx : Value} {ks : List K2} {ws : List W4} {w : World} (x y : Int) (hk : Keys B kx ks w) (hw : Wraps C wx ws w) :
    Calls Try.prog 20 #[kx, wx, kv x y] w fun e w' => ∃ out, LrnOut ks ws out ∧ e = .returned (.bool (decide ((x, y) ∈ out))) ∧ Below w.heap.size w w' := by
  have c1 : (w.alloc (kb x y)).cell? ⟨w.heap.size, 0, none⟩ = some (.int .i64 x) := by simp
  have c2 : (w.alloc (kb x y)).cell? ⟨w.heap.size, 1, none⟩ = some (.int .i64 y) := by simp
  have hT : KwT B C kx wx ks ws w (w.alloc (kb x y)) := KwT.later ⟨hk, hw, Below.refl _ _⟩ (one_below _ _)
  clear hk hw
  go_enter Try.func20, Try.ntmps20
  go_wp2
  generalize w.alloc (kb x y) = w1 at c1 c2 hT ⊢
  have hTd : KwT B C kx wx ks ws w w1.drew := hT.later (Below.refl _ _).drew
  go_region_held3 (fun W => W.cell? ⟨w.heap.size, 0, none⟩ = some (.int .i64 x) ∧ W.cell? ⟨w.heap.size, 1, none⟩ = some (.int .i64 y) ∧ KwT B C kx wx ks ws w W)
    (first | exact ⟨c1, c2, hT.later (Below.refl _ _).drew⟩ | assumption | exact keepKw ‹_› hb2 | exact keepKw ‹_› hb)
    (first | (go_at_call 11; refine (learned_any hTd.1 hTd.2.1).mono ?_; rintro e wk ⟨v, out, rfl, hI, hL, hb⟩) | (go_at_call 61; refine (containsKey_any x y hI.arg hI.len_le).mono ?_; rintro e wh ⟨rfl, hb2⟩))
  rename_i hHeld
  have hBf := hHeld.2.2.2.2
  clear hHeld
  go_wp2
  go_ret
  exact ⟨out, hL, rfl, hBf⟩
end Go.Proofs.Ytkkjpkldfllfiaa
