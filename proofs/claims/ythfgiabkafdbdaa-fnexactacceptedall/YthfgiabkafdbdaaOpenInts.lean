
/- A list of numbers that came in, opened: what the reading says of its cells. -/
import Derived.Test.YthfgiabkafdbdaaIntsP
import Derived.ProofKit
import Derived.Deep.Slices
import Derived.Deep.MidRow
namespace Go.Proofs.Ythfgiabkafdbdaa.Wn
open Go.ChangeShapes Go.WideShapes Go.ChangeAt Go.RowKit Go.Deep

theorem cells_i64 : Try.prog.cellsOf 2 = 1 := by kernel_rfl
theorem addr_spot {W : World} {a : Addr} {v : Value} (h : W.cell? (a.add 0) = some v) : ∃ b off, a = ⟨b, off, none⟩ := by
  obtain ⟨b, off, spot⟩ := a
  have hspot : spot = none := by simpa [Addr.add] using World.cell?_spot h
  exact ⟨b, off, by rw [hspot]⟩

theorem inInts_of {H : Type} {enc : TypeId × Value → H} {W : World} {fuel : Nat} {v : Value} {x : DataW H × List MemPlace}
    (h : DataW.trod enc Try.prog W 0 (fun _ => true) true fuel 24 [v] = some x) : ∃ xs, InInts v xs W := by
  rcases open_slice Try.underlying24 h with ⟨hcs, _⟩ | ⟨a, len, cap, m, n, D, Pl, hcs, _, hl, hm, hmm, _, hel⟩
  · simp at hcs
    exact ⟨[], .inl ⟨_, _, hcs, rfl⟩⟩
  · simp at hcs
    subst hcs
    simp only [if_true] at hmm
    have hk : ∀ i, i < m → ∃ k : Int, W.cell? (a.add i) = some (.int .i64 k) := fun i hi => by
      obtain ⟨cs', h1, h2⟩ := hel i hi
      obtain ⟨p, e0, _, _⟩ := DataW.trod_int Try.underlying2 h2
      subst e0
      rw [cells_i64] at h1
      obtain ⟨_, _, h3⟩ := World.cells?_some h1
      have g0 := h3 0 (by omega)
      have e0 : (a.add (i * 1)).add 0 = a.add i := by simp [Addr.add]
      rw [e0] at g0
      exact ⟨p, by simpa using g0⟩
    obtain ⟨K, hK⟩ := choose_lt hk
    by_cases h0 : len = 0
    · subst h0
      exact ⟨[], .inl ⟨_, _, rfl, rfl⟩⟩
    · obtain ⟨b, off, rfl⟩ := addr_spot (hK 0 (by omega))
      refine ⟨(List.range len).map K, .inr ⟨b, off, cap, by simp, ?_, by simp; omega, fun i hi => ?_⟩⟩
      · have := World.block_lt_of_cell? _ _ (hK 0 (by omega))
        simpa [Addr.add] using this
      · have hi' : i < len := by simpa using hi
        have := hK i (by omega)
        rw [Addr.add_mid] at this
        simpa using this
end Go.Proofs.Ythfgiabkafdbdaa.Wn
