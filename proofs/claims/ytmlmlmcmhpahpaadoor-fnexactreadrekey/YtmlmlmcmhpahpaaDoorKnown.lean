
/- The contracts of KnownOk, of the program and of the model: at most 200 right keys that rise. -/
import Derived.Test.YtmlmlmcmhpahpaaDoorKeys
import Derived.Test.YtmlmlmcmhpahpaaDoorRegS
namespace Go.Proofs.YtmlmlmcmhpahpaaDoor
open Go.RowKit

def kAt (ks : List (Int × Int)) (i : Nat) : Int × Int := ks.getD i (0, 0)
theorem kAt_get (ks : List (Int × Int)) (i : Nat) (h : i < ks.length) : kAt ks i = ks[i] := by simp [kAt, h]
def okAt (ks : List (Int × Int)) (i : Nat) : Bool := okK (kAt ks i).1 (kAt ks i).2 && (decide (i = 0) || aheadB (kAt ks (i - 1)).1 (kAt ks (i - 1)).2 (kAt ks i).1 (kAt ks i).2)
def allTo (ks : List (Int × Int)) (m : Nat) : Bool := (List.range m).all (okAt ks)
theorem allTo_succ (ks : List (Int × Int)) (m : Nat) : allTo ks (m + 1) = (allTo ks m && okAt ks m) := by simp [allTo, List.range_succ]
theorem allTo_false {ks : List (Int × Int)} {m n : Nat} (h : okAt ks m = false) (hn : m < n) : allTo ks n = false := by
  simp only [allTo, List.all_eq_false]
  exact ⟨m, List.mem_range.2 hn, by simp [h]⟩
def knownB (ks : List (Int × Int)) : Bool := decide (ks.length ≤ 200) && allTo ks ks.length
theorem one_below (w : World) (o : Obj) : Below w.heap.size w (w.alloc o) := (Below.refl _ _).alloc (Nat.le_refl _) o
theorem l2Key_below (n v : Int) (w : World) :
    Calls Tryd.prog 64 #[kv n v] w fun e w' => e = .returned (.bool (okK n v)) ∧ Below w.heap.size w w' := (l2Key_any n v w).mono fun _ _ h => ⟨h.1, h.2 ▸ one_below _ _⟩
theorem keyOk_below (n v : Int) (w : World) :
    Calls Tryd.prog 66 #[kv n v] w fun e w' => e = .returned (.bool (okK n v)) ∧ Below w.heap.size w w' := (keyOk_any n v w).mono fun _ _ h => ⟨h.1, h.2 ▸ one_below _ _⟩
end Go.Proofs.YtmlmlmcmhpahpaaDoor
