
/- Rekeys that are right: rekeyOk of the program, l4RekeyOk of the model. -/
import Derived.Test.YtmlmlmcmhpahpaaDoorWraps2
import Derived.Test.YtmlmlmcmhpahpaaDoorMem
import Derived.Test.YtmlmlmcmhpahpaaDoorKit
namespace Go.Proofs.YtmlmlmcmhpahpaaDoor
open Go.RowKit

theorem hidA {p : Prop} (h : p) : Hid p := h
abbrev rv (ep : Int) (x : Value) : Value := .agg #[.int .i64 ep, x]
abbrev rb (ep : Int) (x : Value) : Obj := .cells #[.int .i64 ep, x] 39
/-- A rekey is right. -/
def rkB (ep : Int) (ws : List W4) : Bool := decide (1 ≤ ep ∧ ep ≤ 1000000000) && wrapsB ws
theorem rkB_wraps {ep : Int} {ws : List W4} (h : rkB ep ws = true) : wrapsB ws = true := by
  unfold rkB at h
  simp only [Bool.and_eq_true] at h
  exact h.2
theorem wrapsSince {B : Nat} {v : Value} {ws : List W4} {W W' : World} (h : Wraps B v ws W) (hb : Below W.heap.size W W') : Wraps B v ws W' := by
  have := RowF.since (r := ⟨B, 63, 4, v, ws.length, wcells ws⟩) h hb
  exact this
theorem rcell2 (w : World) (ep : Int) (x : Value) : (w.alloc (rb ep x)).cell? ⟨w.heap.size, 0, none⟩ = some (.int .i64 ep) ∧ (w.alloc (rb ep x)).cell? ⟨w.heap.size, 1, none⟩ = some x := by simp

set_option maxRecDepth 100000 in
theorem rekeyOk_any {B : Nat} {x : Value} {ws : List W4} {w : World} (ep : Int) (h : Wraps B x ws w) :
    Calls Tryd.prog 34 #[rv ep x] w fun e w' => e = .returned (.bool (rkB ep ws)) ∧ Below w.heap.size w w' := by
  have hB1 := one_below w (rb ep x)
  obtain ⟨c0, c1⟩ := rcell2 w ep x
  have X1 := hidA (wrapsSince h hB1)
  clear h
  by_cases h1 : 1 ≤ ep
  · by_cases h2 : ep ≤ 1000000000
    · have HR := hidA (show rkB ep ws = wrapsB ws by simp [rkB, h1, h2])
      go_enter Tryd.func34, Tryd.ntmps34
      go_wp2_with fail
      generalize w.alloc (rb ep x) = w1 at *
      refine (wrapsOk_any X1.out).mono ?_
      rintro e w2 ⟨rfl, b2⟩
      have B2 := hidA (more hB1 b2)
      clear hB1 b2 c0 c1 X1
      go_wp2
      go_ret
      exact ⟨by rw [HR.out]; rfl, B2.out⟩
    · have HR := hidA (show rkB ep ws = false by simp [rkB, h2])
      go_enter Tryd.func34, Tryd.ntmps34
      go_wp2
      go_ret
      exact ⟨by rw [HR.out]; rfl, hB1⟩
  · have HR := hidA (show rkB ep ws = false by simp [rkB, h1])
    go_enter Tryd.func34, Tryd.ntmps34
    go_wp2
    go_ret
    exact ⟨by rw [HR.out]; rfl, hB1⟩

set_option maxRecDepth 100000 in
theorem l4RekeyOk_any {B : Nat} {x : Value} {ws : List W4} {w : World} (ep : Int) (h : Wraps B x ws w) :
    Calls Tryd.prog 31 #[rv ep x] w fun e w' => e = .returned (.bool (rkB ep ws)) ∧ Below w.heap.size w w' := by
  have hB1 := one_below w (rb ep x)
  obtain ⟨c0, c1⟩ := rcell2 w ep x
  have X1 := hidA (wrapsSince h hB1)
  clear h
  go_enter Tryd.func31, Tryd.ntmps31
  go_wp2_with fail
  generalize w.alloc (rb ep x) = w1 at *
  refine (l1InK_any _ _ _ _).mono ?_
  rintro e w' ⟨rfl, rfl⟩
  cases h1 : decide (1 ≤ ep ∧ ep ≤ 1000000000) with
  | false =>
    have HR := hidA (show rkB ep ws = false by simp [rkB, h1])
    clear h1
    go_wp2
    go_ret
    exact ⟨by rw [HR.out]; rfl, hB1⟩
  | true =>
    have HR := hidA (show rkB ep ws = wrapsB ws by simp [rkB, h1])
    clear h1
    go_wp2_with fail
    refine (specWrapsOk_any X1.out).mono ?_
    rintro e w2 ⟨rfl, b2⟩
    have B2 := hidA (more hB1 b2)
    clear hB1 b2 c0 c1 X1
    go_wp2
    go_ret
    exact ⟨by rw [HR.out]; rfl, B2.out⟩
end Go.Proofs.YtmlmlmcmhpahpaaDoor
