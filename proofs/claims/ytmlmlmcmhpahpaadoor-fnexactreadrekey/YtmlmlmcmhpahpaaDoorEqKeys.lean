
/- What the laws' comparison of two lists of keys does. -/
import Derived.Test.YtmlmlmcmhpahpaaDoorToKb
namespace Go.Proofs.YtmlmlmcmhpahpaaDoor
open Go.RowKit

def sameK (a0 a1 b0 b1 : Int) : Bool := decide (a0 = b0 ∧ a1 = b1)
theorem eqKey_any (a0 a1 b0 b1 : Int) (w : World) :
    Calls Tryd.prog 69 #[kv a0 a1, kv b0 b1] w fun e w' => e = .returned (.bool (sameK a0 a1 b0 b1)) ∧ w' = (w.alloc (kb a0 a1)).alloc (kb b0 b1) := by
  by_cases h : a0 = b0
  · have h' : (a0 == b0) = true := by simpa using h
    by_cases h1 : a1 = b1
    · have h1' : (a1 == b1) = true := by simpa using h1
      have hr : sameK a0 a1 b0 b1 = true := decide_eq_true ⟨h, h1⟩
      rw [hr]
      subst h h1
      go_enter Tryd.func69, Tryd.ntmps69
      go_wp2
      go_ret
      exact ⟨rfl, rfl⟩
    · have h1' : (a1 == b1) = false := by simpa using h1
      have hr : sameK a0 a1 b0 b1 = false := decide_eq_false fun e => h1 e.2
      rw [hr]
      subst h
      go_enter Tryd.func69, Tryd.ntmps69
      go_wp2
      go_ret
      exact ⟨rfl, rfl⟩
  · have h' : (a0 == b0) = false := by simpa using h
    have hr : sameK a0 a1 b0 b1 = false := decide_eq_false fun e => h e.1
    rw [hr]
    go_enter Tryd.func69, Tryd.ntmps69
    go_wp2
    go_ret
    exact ⟨rfl, rfl⟩
theorem two_below (w : World) (o o' : Obj) : Below w.heap.size w ((w.alloc o).alloc o') := ((Below.refl _ _).alloc (Nat.le_refl _) o).alloc (by simp) o'

theorem eqKey_below (a0 a1 b0 b1 : Int) (w : World) :
    Calls Tryd.prog 69 #[kv a0 a1, kv b0 b1] w fun e w' => e = .returned (.bool (sameK a0 a1 b0 b1)) ∧ Below w.heap.size w w' :=
  (eqKey_any a0 a1 b0 b1 w).mono fun _ _ h => ⟨h.1, h.2 ▸ two_below _ _ _⟩

def eqL (xs ys : List (Int × Int)) : Bool := decide (xs = ys)
theorem eqL_len {xs ys : List (Int × Int)} (h : xs.length ≠ ys.length) : eqL xs ys = false := decide_eq_false fun e => h (by rw [e])
end Go.Proofs.YtmlmlmcmhpahpaaDoor
