
/- Contracts of the functions on single keys (cmp.Compare at int64, compareKeys, KeyAhead of the program and of the model), with no condition. -/
import Derived.Test.YtplinjepeahahaaRows
import Derived.WalkKit
import Derived.WalkSpells
import Derived.WalkLawsBesides
import Derived.Deep.QuietTactic
import Derived.BigQuiet
namespace Go.Proofs.Ytplinjepeahahaa
open Go.RowKit

/-- Behind a call that makes memory alone: all old cells, all old marks read as before. -/
theorem bcell {W w1 : World} (hb : Below W.heap.size W w1) : (∀ b o, b < W.heap.size → w1.cell? ⟨b, o, none⟩ = W.cell? ⟨b, o, none⟩) ∧ (∀ b o, b < W.heap.size → w1.frozen? ⟨b, o, none⟩ = W.frozen? ⟨b, o, none⟩) :=
  ⟨fun b o h => hb.cell (p := ⟨b, o, none⟩) h, fun b o h => hb.frozen (p := ⟨b, o, none⟩) h⟩

def cmpI (x y : Int) : Int := if x < y then -1 else if y < x then 1 else 0
theorem cmpI_lt {x y : Int} (h : x < y) : cmpI x y = -1 := by simp [cmpI, h]
theorem cmpI_gt {x y : Int} (h : y < x) : cmpI x y = 1 := by unfold cmpI; rw [if_neg (by omega), if_pos h]
theorem cmpI_eq {x y : Int} (h : x = y) : cmpI x y = 0 := by unfold cmpI; rw [if_neg (by omega), if_neg (by omega)]

theorem isNaN_any (x : Int) (w : World) :
    Calls Try.prog 78 #[.int .i64 x] w fun e w' => e = .returned (.bool false) ∧ w' = w := by
  go_enter Try.func78, Try.ntmps78
  go_wp2
  go_ret
  exact ⟨by simp, rfl⟩

theorem compare_any (x y : Int) (w : World) :
    Calls Try.prog 77 #[.int .i64 x, .int .i64 y] w fun e w' => e = .returned (.int .i64 (cmpI x y)) ∧ w' = w := by
  by_cases h1 : x < y
  · rw [cmpI_lt h1]
    go_enter Try.func77, Try.ntmps77
    go_wp2_with (go_at_call 78; refine (isNaN_any _ _).mono ?_; rintro e w' ⟨rfl, rfl⟩)
    go_ret
    exact ⟨rfl, rfl⟩
  · by_cases h2 : y < x
    · rw [cmpI_gt h2]
      go_enter Try.func77, Try.ntmps77
      go_wp2_with (go_at_call 78; refine (isNaN_any _ _).mono ?_; rintro e w' ⟨rfl, rfl⟩)
      go_ret
      exact ⟨rfl, rfl⟩
    · rw [cmpI_eq (by omega)]
      go_enter Try.func77, Try.ntmps77
      go_wp2_with (go_at_call 78; refine (isNaN_any _ _).mono ?_; rintro e w' ⟨rfl, rfl⟩)
      go_ret
      exact ⟨rfl, rfl⟩

/-- A key as a value. -/
abbrev kv (n v : Int) : Value := .agg #[.int .i64 n, .int .i64 v]
abbrev kb (n v : Int) : Obj := .cells #[.int .i64 n, .int .i64 v] 38
def cmpK (a0 a1 b0 b1 : Int) : Int := if a0 = b0 then cmpI a1 b1 else cmpI a0 b0
def aheadB (a0 a1 b0 b1 : Int) : Bool := decide (a0 < b0 ∨ a0 = b0 ∧ a1 < b1)
theorem cmpK_neg (a0 a1 b0 b1 : Int) : decide (cmpK a0 a1 b0 b1 < 0) = aheadB a0 a1 b0 b1 := by
  unfold cmpK aheadB cmpI
  rw [decide_eq_decide]
  by_cases h : a0 = b0
  · rw [if_pos h]
    by_cases h1 : a1 < b1
    · rw [if_pos h1]; omega
    · rw [if_neg h1]
      by_cases h2 : b1 < a1
      · rw [if_pos h2]; omega
      · rw [if_neg h2]; omega
  · rw [if_neg h]
    by_cases h1 : a0 < b0
    · rw [if_pos h1]; omega
    · rw [if_neg h1]
      by_cases h2 : b0 < a0
      · rw [if_pos h2]; omega
      · rw [if_neg h2]; omega

theorem compareKeys_any (a0 a1 b0 b1 : Int) (w : World) :
    Calls Try.prog 76 #[kv a0 a1, kv b0 b1] w fun e w' => e = .returned (.int .i64 (cmpK a0 a1 b0 b1)) ∧ w' = (w.alloc (kb a0 a1)).alloc (kb b0 b1) := by
  by_cases h : a0 = b0
  · have h' : (a0 == b0) = true := by simpa using h
    have hk : cmpK a0 a1 b0 b1 = cmpI a1 b1 := by unfold cmpK; rw [if_pos h]
    rw [hk]; clear hk
    subst h
    go_enter Try.func76, Try.ntmps76
    go_wp2_with (go_at_call 77; refine (compare_any _ _ _).mono ?_; rintro e w' ⟨rfl, rfl⟩)
    go_ret
    exact ⟨rfl, rfl⟩
  · have h' : (a0 == b0) = false := by simpa using h
    have hk : cmpK a0 a1 b0 b1 = cmpI a0 b0 := by unfold cmpK; rw [if_neg h]
    rw [hk]; clear hk
    go_enter Try.func76, Try.ntmps76
    go_wp2_with (go_at_call 77; refine (compare_any _ _ _).mono ?_; rintro e w' ⟨rfl, rfl⟩)
    go_ret
    exact ⟨rfl, rfl⟩

theorem keyAhead_any (a0 a1 b0 b1 : Int) (w : World) :
    Calls Try.prog 72 #[kv a0 a1, kv b0 b1] w fun e w' => e = .returned (.bool (aheadB a0 a1 b0 b1)) ∧ w' = (((w.alloc (kb a0 a1)).alloc (kb b0 b1)).alloc (kb a0 a1)).alloc (kb b0 b1) := by
  rw [← cmpK_neg]
  go_enter Try.func72, Try.ntmps72
  go_wp2_with (go_at_call 76; refine (compareKeys_any _ _ _ _ _).mono ?_; rintro e w' ⟨rfl, rfl⟩)
  go_ret
  exact ⟨rfl, rfl⟩

theorem specAhead_any (a0 a1 b0 b1 : Int) (w : World) :
    Calls Try.prog 69 #[kv a0 a1, kv b0 b1] w fun e w' => e = .returned (.bool (aheadB a0 a1 b0 b1)) ∧ w' = (w.alloc (kb a0 a1)).alloc (kb b0 b1) := by
  by_cases h1 : a0 < b0
  · have hr : aheadB a0 a1 b0 b1 = true := by simp [aheadB, h1]
    rw [hr]; clear hr
    go_enter Try.func69, Try.ntmps69
    go_wp2
    go_ret
    exact ⟨rfl, rfl⟩
  · by_cases h : a0 = b0
    · have h' : (a0 == b0) = true := by simpa using h
      by_cases h2 : a1 < b1
      · have hr : aheadB a0 a1 b0 b1 = true := by simp [aheadB, h, h2]
        rw [hr]; clear hr
        subst h
        go_enter Try.func69, Try.ntmps69
        go_wp2
        go_ret
        exact ⟨rfl, rfl⟩
      · have hr : aheadB a0 a1 b0 b1 = false := by simp [aheadB, h]; omega
        rw [hr]; clear hr
        subst h
        go_enter Try.func69, Try.ntmps69
        go_wp2
        go_ret
        exact ⟨rfl, rfl⟩
    · have h' : (a0 == b0) = false := by simpa using h
      have hr : aheadB a0 a1 b0 b1 = false := by simp [aheadB, h]; omega
      rw [hr]; clear hr
      go_enter Try.func69, Try.ntmps69
      go_wp2
      go_ret
      exact ⟨rfl, rfl⟩
end Go.Proofs.Ytplinjepeahahaa
