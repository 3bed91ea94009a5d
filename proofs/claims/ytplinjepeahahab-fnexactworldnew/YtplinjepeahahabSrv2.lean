
/- seatsOk of the program: at most eight seats by rising member, with unlike leaves. -/
import Derived.Test.YtplinjepeahahabSrv
namespace Go.Proofs.Ytplinjepeahahab
open Go.RowKit

/-- The array of taken leaves when m seats have been looked at. -/
def Taken (T : Nat) (ss : List (Int × Int)) (m : Nat) (W : World) : Prop := ∀ l : Nat, l < 16 → W.cell? ⟨T, l, none⟩ = some (.bool (takenB ss m (l : Int))) ∧ W.frozen? ⟨T, l, none⟩ = false
theorem Taken.later {T : Nat} {ss : List (Int × Int)} {m : Nat} {W W' : World} (h : Taken T ss m W) (hb : Below W.heap.size W W') (hT : T < W.heap.size) : Taken T ss m W' := fun l hl =>
  ⟨(hb.cell (p := ⟨T, l, none⟩) hT).trans (h l hl).1, (hb.frozen (p := ⟨T, l, none⟩) hT).trans (h l hl).2⟩
theorem Taken.set {T : Nat} {ss : List (Int × Int)} {m n : Nat} {W : World} (h : Taken T ss m W) (hn : n < 16) (hm : (kAt ss m).2 = (n : Int)) : Taken T ss (m + 1) (W.setCell ⟨T, n, none⟩ (.bool true)) := fun l hl => by
  refine ⟨?_, by rw [World.frozen?_setCell]; exact (h l hl).2⟩
  rw [takenB_succ, hm]
  by_cases e : l = n
  · subst e
    exact (World.cell?_setCell_same _ _ _ (h l hl).1).trans (by simp)
  · refine (World.cell?_setCell_other _ _ _ _ (fun e' => e (by injection e' with _ h2; exact h2.symm))).trans ((h l hl).1.trans ?_)
    have : decide ((n : Int) = (l : Int)) = false := decide_eq_false (by omega)
    rw [this, Bool.or_false]
theorem below_drewN2 {n : Nat} {w W : World} (h : Below n w W) (k : Nat) : Below n w (W.drewN k) := ⟨h.os, h.tape, h.output, h.size, h.block⟩

end Go.Proofs.Ytplinjepeahahab
