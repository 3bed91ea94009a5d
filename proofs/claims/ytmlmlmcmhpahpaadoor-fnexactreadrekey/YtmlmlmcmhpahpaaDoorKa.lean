
/- Contracts of the functions on single keys (cmp.Compare at int64, compareKeys, KeyAhead of the program and of the model), with no condition. -/
import Derived.Test.YtmlmlmcmhpahpaaDoorRows
import Derived.WalkKit
import Derived.WalkSpells
import Derived.WalkLawsBesides
import Derived.Deep.QuietTactic
import Derived.BigQuiet
namespace Go.Proofs.YtmlmlmcmhpahpaaDoor
open Go.RowKit

/-- Behind a call that makes memory alone: all old cells, all old marks read as before. -/
theorem bcell {W w1 : World} (hb : Below W.heap.size W w1) : (∀ b o, b < W.heap.size → w1.cell? ⟨b, o, none⟩ = W.cell? ⟨b, o, none⟩) ∧ (∀ b o, b < W.heap.size → w1.frozen? ⟨b, o, none⟩ = W.frozen? ⟨b, o, none⟩) :=
  ⟨fun b o h => hb.cell (p := ⟨b, o, none⟩) h, fun b o h => hb.frozen (p := ⟨b, o, none⟩) h⟩

def cmpI (x y : Int) : Int := if x < y then -1 else if y < x then 1 else 0
theorem cmpI_lt {x y : Int} (h : x < y) : cmpI x y = -1 := by simp [cmpI, h]
theorem cmpI_gt {x y : Int} (h : y < x) : cmpI x y = 1 := by unfold cmpI; rw [if_neg (by omega), if_pos h]
theorem cmpI_eq {x y : Int} (h : x = y) : cmpI x y = 0 := by unfold cmpI; rw [if_neg (by omega), if_neg (by omega)]

/-- A key as a value. -/
abbrev kv (n v : Int) : Value := .agg #[.int .i64 n, .int .i64 v]
abbrev kb (n v : Int) : Obj := .cells #[.int .i64 n, .int .i64 v] 61
def cmpK (a0 a1 b0 b1 : Int) : Int := if a0 = b0 then cmpI a1 b1 else cmpI a0 b0
def aheadB (a0 a1 b0 b1 : Int) : Bool := decide (a0 < b0 ∨ a0 = b0 ∧ a1 < b1)
theorem cmpK_neg (a0 a1 b0 b1 : Int) : decide (cmpK a0 a1 b0 b1 < 0) = aheadB a0 a1 b0 b1 := by
  unfold cmpK aheadB cmpI
  rw [decide_eq_decide]
  by_cases h : a0 = b0
  · rw [if_pos h]
    by_cases h1 : a1 < b1
    · rw [if_pos h1]; omega
    · rw [if_neg h1]
      by_cases h2 : b1 < a1
      · rw [if_pos h2]; omega
      · rw [if_neg h2]; omega
  · rw [if_neg h]
    by_cases h1 : a0 < b0
    · rw [if_pos h1]; omega
    · rw [if_neg h1]
      by_cases h2 : b0 < a0
      · rw [if_pos h2]; omega
      · rw [if_neg h2]; omega

end Go.Proofs.YtmlmlmcmhpahpaaDoor
