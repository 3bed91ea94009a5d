
/- The exact law of ReadOp. -/
import Derived.Test.YtmlmlmcmhpahpaaDoorTu
namespace Go.Proofs.YtmlmlmcmhpahpaaDoor
open Go.RowKit Go.Shelf
namespace Tx

theorem eqOp_same (k m : Int) (w : World) :
    Calls Tryd.prog 12 #[kv k m, kv k m] w fun e w' => e = .returned (.bool true) ∧ Below w.heap.size w w' := by
  go_enter Tryd.func12, Tryd.ntmps12
  go_wp2
  go_ret
  exact ⟨rfl, (oneB _ _).alloc (by simp) _⟩

set_option maxRecDepth 100000 in
theorem exReadOp_any (l : List UInt8) (w : World) (hN : HasNo w) (hF : HasForm w) :
    Calls Tryd.prog 4 #[st l] w fun e w' => e = .returned (.bool true) ∧ Below w.heap.size w w' := by
  have HN := hidT hN
  have HF := hidT hF
  clear hN hF
  by_cases hl : l.length ≤ 1048576
  · have hl' : ¬ (1048576 : Int) < (l.length : Int) := by omega
    go_enter Tryd.func4, Tryd.ntmps4
    go_wp2_with fail
    refine (specReadOp_any l w hl).mono ?_
    rintro e w1 ⟨rfl, hb1⟩
    obtain ⟨k, m, ok, HX⟩ : ∃ k m ok, Hid (specRead l = (k, m, ok)) := ⟨_, _, _, rfl⟩
    rw [HX.out]
    have B1 := hidT hb1
    clear hb1
    go_wp2_with fail
    have B2 := hidT (B1.out.alloc B1.out.size (opb k m))
    have P2 := hidT (heap_new w1 (opb k m))
    refine (readOp_any l _ (HN.out.since B2.out) (HF.out.since B2.out) hl).mono ?_
    rintro e w3 ⟨rfl, hb3⟩
    rw [bothRead, HX.out]
    have P3 := hidT ((hb3.block _ (cell_lt (blk2 P2.out).1)).trans P2.out)
    have B3 := hidT (B2.out.trans (hb3.mono B2.out.size))
    have hs3 : w1.heap.size < w3.heap.size := cell_lt (blk2 P3.out).1
    clear hb3
    have P4 := hidT ((heap_old w3 (opb k m) hs3).trans P3.out)
    have B4 := hidT (B3.out.alloc B3.out.size (opb k m))
    obtain ⟨c0, c1, f0, f1⟩ := blk2 P3.out
    go_wp2_with fail
    refine (eqOp_same k m _).mono ?_
    rintro e w5 ⟨rfl, hb5⟩
    have B5 := hidT (B4.out.trans (hb5.mono B4.out.size))
    clear hb5
    go_wp2
    go_ret
    exact ⟨rfl, B5.out⟩
  · have hl' : (1048576 : Int) < (l.length : Int) := by omega
    go_enter Tryd.func4, Tryd.ntmps4
    go_wp2
    go_ret
    exact ⟨rfl, Below.refl _ _⟩
end Tx
end Go.Proofs.YtmlmlmcmhpahpaaDoor
