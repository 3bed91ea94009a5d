/- The contracts of CanLearn, of the program and of the model. -/
import Derived.Test.YtlaonieddchjkaaCl
import Derived.Deep.RegionHeld3
namespace Go.Proofs.Ytlaonieddchjkaa
open Go.RowKit

/-- Keys and wraps lie as they lay, and nothing has turned since w. -/
def KwT (B C : Nat) (kx wx : Value) (ks : List K2) (ws : List W4) (w W : World) : Prop := Keys B kx ks W ∧ Wraps C wx ws W ∧ Below w.heap.size w W
theorem KwT.later {B C : Nat} {kx wx : Value} {ks : List K2} {ws : List W4} {w W W' : World} (h : KwT B C kx wx ks ws w W) (hb : Below W.heap.size W W') : KwT B C kx wx ks ws w W' :=
  ⟨h.1.below hb (fun k e => (h.1.lt k e).2), h.2.1.below hb (fun k e => (h.2.1.lt k e).2), h.2.2.trans (hb.mono h.2.2.size)⟩
theorem keepKw {B C : Nat} {kx wx : Value} {ks : List K2} {ws : List W4} {w W W' : World} {p1 p2 : Addr} {v1 v2 : Value} (h : W.cell? p1 = some v1 ∧ W.cell? p2 = some v2 ∧ KwT B C kx wx ks ws w W) (hb : Below W.heap.size W W') :
    W'.cell? p1 = some v1 ∧ W'.cell? p2 = some v2 ∧ KwT B C kx wx ks ws w W' := ⟨cell_since h.1 hb, cell_since h.2.1 hb, h.2.2.later hb⟩
theorem Keys.len_le {B : Nat} {v : Value} {ks : List K2} {W : World} (h : Keys B v ks W) : ks.length ≤ maxLen := by
  rcases h.form with ⟨_, rfl⟩ | ⟨g, cap, _, _, _, h1, h2, _⟩
  · exact Nat.zero_le _
  · omega

set_option maxHeartbeats 1000000 in
theorem specCanLearn_any {B C : Nat} {kx wx : Value} {ks : List K2} {ws : List W4} {w : World} (x y : Int) (hk : Keys B kx ks w) (hw : Wraps C wx ws w) :
    Calls Try.prog 29 #[kx, wx, kv x y] w fun e w' => ∃ out, LrnOut ks ws out ∧ e = .returned (.bool (decide ((x, y) ∈ out))) ∧ Below w.heap.size w w' := by
  have c1 : (w.alloc (kb x y)).cell? ⟨w.heap.size, 0, none⟩ = some (.int .i64 x) := by simp
  have c2 : (w.alloc (kb x y)).cell? ⟨w.heap.size, 1, none⟩ = some (.int .i64 y) := by simp
  have hT : KwT B C kx wx ks ws w (w.alloc (kb x y)) := KwT.later ⟨hk, hw, Below.refl _ _⟩ (one_below _ _)
  clear hk hw
  go_enter Try.func29, Try.ntmps29
  go_wp2
  generalize w.alloc (kb x y) = w1 at c1 c2 hT ⊢
  have hTd : KwT B C kx wx ks ws w w1.drew := hT.later (Below.refl _ _).drew
  go_region_held3 (fun W => W.cell? ⟨w.heap.size, 0, none⟩ = some (.int .i64 x) ∧ W.cell? ⟨w.heap.size, 1, none⟩ = some (.int .i64 y) ∧ KwT B C kx wx ks ws w W)
    (first | exact ⟨c1, c2, hT.later (Below.refl _ _).drew⟩ | assumption | exact keepKw ‹_› hb2 | exact keepKw ‹_› hb)
    (first | (go_at_call 21; refine (specLearned_any hTd.1 hTd.2.1).mono ?_; rintro e wk ⟨v, out, rfl, hfew, hI, hL, hb⟩) | (go_at_call 55; refine (l2Has_any x y hI.arg hI.len_le).mono ?_; rintro e wh ⟨rfl, hb2⟩))
  rename_i hHeld
  have hBf := hHeld.2.2.2.2
  clear hHeld
  go_wp2
  go_ret
  exact ⟨out, hL, rfl, hBf⟩

set_option maxHeartbeats 1000000 in
theorem canLearn_any {B C : Nat} {kx wx : Value} {ks : List K2} {ws : List W4} {w : World} (x y : Int) (hk : Keys B kx ks w) (hw : Wraps C wx ws w) :
    Calls Try.prog 28 #[kx, wx, kv x y] w fun e w' => ∃ out, LrnOut ks ws out ∧ e = .returned (.bool (decide ((x, y) ∈ out))) ∧ Below w.heap.size w w' := by
  have c1 : (w.alloc (kb x y)).cell? ⟨w.heap.size, 0, none⟩ = some (.int .i64 x) := by simp
  have c2 : (w.alloc (kb x y)).cell? ⟨w.heap.size, 1, none⟩ = some (.int .i64 y) := by simp
  have hT : KwT B C kx wx ks ws w (w.alloc (kb x y)) := KwT.later ⟨hk, hw, Below.refl _ _⟩ (one_below _ _)
  clear hk hw
  go_enter Try.func28, Try.ntmps28
  go_wp2
  generalize w.alloc (kb x y) = w1 at c1 c2 hT ⊢
  have hTd : KwT B C kx wx ks ws w w1.drew := hT.later (Below.refl _ _).drew
  go_region_held3 (fun W => W.cell? ⟨w.heap.size, 0, none⟩ = some (.int .i64 x) ∧ W.cell? ⟨w.heap.size, 1, none⟩ = some (.int .i64 y) ∧ KwT B C kx wx ks ws w W)
    (first | exact ⟨c1, c2, hT.later (Below.refl _ _).drew⟩ | assumption | exact keepKw ‹_› hb2 | exact keepKw ‹_› hb)
    (first | (go_at_call 19; refine (learned_any hTd.1 hTd.2.1).mono ?_; rintro e wk ⟨v, out, rfl, hI, hL, hb⟩) | (go_at_call 54; refine (containsKey_any x y hI.arg hI.len_le).mono ?_; rintro e wh ⟨rfl, hb2⟩))
  rename_i hHeld
  have hBf := hHeld.2.2.2.2
  clear hHeld
  go_wp2
  go_ret
  exact ⟨out, hL, rfl, hBf⟩
end Go.Proofs.Ytlaonieddchjkaa
