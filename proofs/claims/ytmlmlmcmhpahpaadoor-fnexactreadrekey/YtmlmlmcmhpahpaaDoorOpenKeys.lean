
/- A list of the laws' keys that came in, opened: what the reading says of the cells. -/
import Derived.Test.YtmlmlmcmhpahpaaDoorToKb
import Derived.Test.YtmlmlmcmhpahpaaDoorOpenB
import Derived.ProofKit
import Derived.Deep.Slices
import Derived.Deep.MidRow
namespace Go.Proofs.YtmlmlmcmhpahpaaDoor
open Go.ChangeShapes Go.WideShapes Go.ChangeAt Go.RowKit Go.Deep

theorem cells_lkey : Tryd.prog.cellsOf 86 = 2 := by kernel_rfl
theorem key_cells {H : Type} {enc : TypeId × Value → H} {W : World} {base : Nat} {spare : Nat → Bool} {held : Bool} {n : Nat} {cs : List Value} {x : DataW H × List MemPlace}
    (h : DataW.trod enc Tryd.prog W base spare held n 86 cs = some x) : ∃ a b : Int, cs = [.int .i64 a, .int .i64 b] := by
  obtain ⟨y0, y1, m, _, hl, h0, h1⟩ := trod_struct2 Tryd.underlying86 h
  obtain ⟨a, e0, _, _⟩ := DataW.trod_int Tryd.underlying2 h0
  obtain ⟨b, e1, _, _⟩ := DataW.trod_int Tryd.underlying2 h1
  rw [cells_lkey] at hl
  obtain ⟨c0, c1, rfl⟩ := list_two hl
  rw [cells_i64] at e0 e1
  simp at e0 e1
  exact ⟨a, b, by rw [e0, e1]⟩

end Go.Proofs.YtmlmlmcmhpahpaaDoor
