
/- Lists of numbers in memory: rows of cells. -/
import Derived.Test.YthfgiabkafdbdaaOwn
import Derived.Test.YthfgiabkafdbdaaWBase
namespace Go.Proofs.Ythfgiabkafdbdaa.Wn
open Go.RowKit

theorem infoI : (Try.prog.info? 2).map (fun i => (i.zero, i.size, i.bytes)) = some (some (.int .i64 0), 1, 8) := by kernel_rfl
/-- Numbers lie in block b from offset 'off' on. -/
def ISeg (b off : Nat) (xs : List Int) (W : World) : Prop := ∀ i (hi : i < xs.length), W.cell? ⟨b, off + i, none⟩ = some (.int .i64 xs[i])
theorem ISeg.kept {b off : Nat} {xs : List Int} {W W' : World} (h : ISeg b off xs W) (hb : W'.heap[b]? = W.heap[b]?) : ISeg b off xs W' := fun i hi =>
  (World.cell?_of_block (a := ⟨b, off + i, none⟩) hb).trans (h i hi)
def IRow (a : Option Addr) (xs : List Int) (w : World) : Prop := xs = [] ∨ ∃ g, a = some ⟨g, 0, none⟩ ∧ g < w.heap.size ∧ ISeg g 0 xs w
theorem _root_.Go.Proofs.Ythfgiabkafdbdaa.Ints.row {B : Nat} {v : Value} {xs : List Int} {w : World} (h : Ints B v xs w) : ∃ a c, v = .slice a xs.length c ∧ xs.length ≤ maxLen ∧ IRow a xs w := by
  rcases h.form with ⟨rfl, rfl⟩ | ⟨g, cap, rfl, _, g1, h1, h2, h3⟩
  · exact ⟨_, _, rfl, Nat.zero_le _, .inl rfl⟩
  · exact ⟨_, _, rfl, by omega, .inr ⟨g, rfl, g1, fun i hi => by rw [Nat.zero_add]; exact (h3 i hi).1⟩⟩
theorem _root_.Go.Proofs.Ythfgiabkafdbdaa.Ints.since {B : Nat} {v : Value} {xs : List Int} {W W' : World} (h : Ints B v xs W) (hb : Below W.heap.size W W') : Ints B v xs W' := h.below hb (fun k e => (h.lt k e).2)
end Go.Proofs.Ythfgiabkafdbdaa.Wn
