
/- ServerOk of the program and of the model. -/
import Derived.Test.YtplinjepeahahabSrv2
import Derived.Test.YtplinjepeahahabBox3
namespace Go.Proofs.Ytplinjepeahahab
open Go.RowKit

abbrev svv (ep : Int) (x y : Value) : Value := .agg #[.int .i64 ep, x, y]
abbrev svb (ep : Int) (x y : Value) : Obj := .cells #[.int .i64 ep, x, y] 40
theorem scell3 (w : World) (ep : Int) (x y : Value) : (w.alloc (svb ep x y)).cell? ⟨w.heap.size, 0, none⟩ = some (.int .i64 ep) ∧ (w.alloc (svb ep x y)).cell? ⟨w.heap.size, 1, none⟩ = some x ∧ (w.alloc (svb ep x y)).cell? ⟨w.heap.size, 2, none⟩ = some y := by simp
/-- What is known in the middle of the seats' look. -/
theorem l1In_at {S : World → Prop} (n lo hi : Int) (s : SW S) :
    Calls Try.prog 34 #[.int .i64 n, .int .i64 lo, .int .i64 hi] s.w fun e w' => e = .returned (.bool (decide (lo ≤ n ∧ n ≤ hi))) ∧ w' = s.w := l1InK_any n lo hi s.w

end Go.Proofs.Ytplinjepeahahab
