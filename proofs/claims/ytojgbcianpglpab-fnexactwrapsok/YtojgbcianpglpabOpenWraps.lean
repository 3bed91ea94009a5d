
/- A list of the laws' wraps that came in, opened: what the reading says of the cells. -/
import Derived.Test.YtojgbcianpglpabEqWraps
namespace Go.Proofs.Ytojgbcianpglpab
open Go.ChangeShapes Go.WideShapes Go.ChangeAt Go.RowKit Go.Deep

theorem cells_lwrap : Try.prog.cellsOf 46 = 4 := by kernel_rfl

theorem wrap_cells {H : Type} {enc : TypeId × Value → H} {W : World} {base : Nat} {spare : Nat → Bool} {held : Bool} {n : Nat} {cs : List Value} {x : DataW H × List MemPlace}
    (h : DataW.trod enc Try.prog W base spare held n 46 cs = some x) : ∃ a b c d : Int, cs = [.int .i64 a, .int .i64 b, .int .i64 c, .int .i64 d] := by
  obtain ⟨y0, y1, m, _, hl, h0, h1⟩ := trod_struct2 Try.underlying46 h
  obtain ⟨a, b, e0⟩ := key_cells h0
  obtain ⟨c, d, e1⟩ := key_cells h1
  rw [cells_lwrap] at hl
  obtain ⟨c0, c1, c2, c3, rfl⟩ := list_four hl
  rw [cells_lkey] at e0 e1
  simp at e0 e1
  exact ⟨a, b, c, d, by rw [e0.1, e0.2, e1.1, e1.2]⟩

theorem add_add (a : Addr) (i j : Nat) (hj : 0 < j) : (a.add i).add j = a.add (i + j) := by
  by_cases hz : i = 0
  · simp [Addr.add, hz]
  · have : j ≠ 0 := by omega
    simp [Addr.add, hz, this, Nat.add_assoc]

theorem inWraps_of {H : Type} {enc : TypeId × Value → H} {W : World} {fuel : Nat} {v : Value} {x : DataW H × List MemPlace}
    (h : DataW.trod enc Try.prog W 0 (fun _ => true) true fuel 29 [v] = some x) : ∃ ws, InWraps v ws W := by
  rcases open_slice Try.underlying29 h with ⟨hcs, _⟩ | ⟨a, len, cap, m, n, D, Pl, hcs, _, hl, hm, hmm, _, hel⟩
  · simp at hcs
    exact ⟨[], .inl ⟨_, _, hcs, rfl⟩⟩
  · simp at hcs
    subst hcs
    simp only [if_true] at hmm
    have hk : ∀ i, i < m → ∃ k : W4, W.cell? (a.add (i * 4)) = some (.int .i64 k.1) ∧ W.cell? (a.add (i * 4 + 1)) = some (.int .i64 k.2.1) ∧ W.cell? (a.add (i * 4 + 2)) = some (.int .i64 k.2.2.1) ∧ W.cell? (a.add (i * 4 + 3)) = some (.int .i64 k.2.2.2) := fun i hi => by
      obtain ⟨cs', h1, h2⟩ := hel i hi
      obtain ⟨p, q, r, s, rfl⟩ := wrap_cells h2
      rw [cells_lwrap] at h1
      obtain ⟨_, _, h3⟩ := World.cells?_some h1
      have g0 := h3 0 (by omega)
      have g1 := h3 1 (by omega)
      have g2 := h3 2 (by omega)
      have g3 := h3 3 (by omega)
      have e0 : (a.add (i * 4)).add 0 = a.add (i * 4) := by simp [Addr.add]
      rw [e0] at g0
      rw [add_add _ _ _ (by omega)] at g1 g2 g3
      exact ⟨(p, q, r, s), by simpa using g0, by simpa using g1, by simpa using g2, by simpa using g3⟩
    obtain ⟨K, hK⟩ := choose_lt hk
    by_cases h0 : len = 0
    · subst h0
      exact ⟨[], .inl ⟨_, _, rfl, rfl⟩⟩
    · obtain ⟨b, off, rfl⟩ := addr_spot (hK 0 (by omega)).1
      refine ⟨(List.range len).map K, .inr ⟨b, off, cap, by simp, ?_, by simp; omega, fun i hi => ?_⟩⟩
      · have := World.block_lt_of_cell? _ _ (hK 0 (by omega)).1
        simpa [Addr.add] using this
      · have hi' : i < len := by simpa using hi
        have := hK i (by omega)
        rw [Addr.add_mid, Addr.add_mid, Addr.add_mid, Addr.add_mid] at this
        simpa [Nat.add_assoc] using this
end Go.Proofs.Ytojgbcianpglpab
