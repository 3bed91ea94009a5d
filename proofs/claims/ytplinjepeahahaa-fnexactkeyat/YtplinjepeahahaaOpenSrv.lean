
/- A server of the laws that came in, opened: what the reading says of its numbers and its seats. -/
import Derived.Test.YtplinjepeahahaaOpenB
import Derived.Test.YtplinjepeahahaaSrv4
namespace Go.Proofs.Ytplinjepeahahaa
open Go.ChangeShapes Go.WideShapes Go.ChangeAt Go.RowKit Go.Deep

theorem cells_lseat : Try.prog.cellsOf 85 = 2 := by kernel_rfl
theorem seat_cells {H : Type} {enc : TypeId × Value → H} {W : World} {base : Nat} {spare : Nat → Bool} {held : Bool} {n : Nat} {cs : List Value} {x : DataW H × List MemPlace}
    (h : DataW.trod enc Try.prog W base spare held n 85 cs = some x) : ∃ a b : Int, cs = [.int .i64 a, .int .i64 b] := by
  obtain ⟨y0, y1, m, _, hl, h0, h1⟩ := trod_struct2 Try.underlying85 h
  obtain ⟨a, e0, _, _⟩ := DataW.trod_int Try.underlying2 h0
  obtain ⟨b, e1, _, _⟩ := DataW.trod_int Try.underlying2 h1
  rw [cells_lseat] at hl
  obtain ⟨c0, c1, rfl⟩ := list_two hl
  rw [cells_i64] at e0 e1
  simp at e0 e1
  exact ⟨a, b, by rw [e0, e1]⟩

theorem inSeats_of {H : Type} {enc : TypeId × Value → H} {W : World} {fuel : Nat} {v : Value} {x : DataW H × List MemPlace}
    (h : DataW.trod enc Try.prog W 0 (fun _ => true) true fuel 23 [v] = some x) : ∃ ks, InSeats v ks W := by
  rcases open_slice Try.underlying23 h with ⟨hcs, _⟩ | ⟨a, len, cap, m, n, D, Pl, hcs, _, hl, hm, hmm, _, hel⟩
  · simp at hcs
    exact ⟨[], .inl ⟨_, _, hcs, rfl⟩⟩
  · simp at hcs
    subst hcs
    simp only [if_true] at hmm
    have hk : ∀ i, i < m → ∃ k : Int × Int, W.cell? (a.add (i * 2)) = some (.int .i64 k.1) ∧ W.cell? (a.add (i * 2 + 1)) = some (.int .i64 k.2) := fun i hi => by
      obtain ⟨cs', h1, h2⟩ := hel i hi
      obtain ⟨p, q, rfl⟩ := seat_cells h2
      rw [cells_lseat] at h1
      obtain ⟨_, _, h3⟩ := World.cells?_some h1
      have g0 := h3 0 (by omega)
      have g1 := h3 1 (by omega)
      have e0 : (a.add (i * 2)).add 0 = a.add (i * 2) := by simp [Addr.add]
      have e1 : (a.add (i * 2)).add 1 = a.add (i * 2 + 1) := by
        by_cases hz : i * 2 = 0
        · simp [Addr.add, hz]
        · simp [Addr.add, hz, Nat.add_assoc]
      rw [e0] at g0
      rw [e1] at g1
      exact ⟨(p, q), by simpa using g0, by simpa using g1⟩
    obtain ⟨K, hK⟩ := choose_lt hk
    by_cases h0 : len = 0
    · subst h0
      exact ⟨[], .inl ⟨_, _, rfl, rfl⟩⟩
    · obtain ⟨b, off, rfl⟩ := addr_spot (hK 0 (by omega)).1
      refine ⟨(List.range len).map K, .inr ⟨b, off, cap, by simp, ?_, by simp; omega, fun i hi => ?_⟩⟩
      · have := World.block_lt_of_cell? _ _ (hK 0 (by omega)).1
        simpa [Addr.add] using this
      · have hi' : i < len := by simpa using hi
        have := hK i (by omega)
        rw [Addr.add_mid, Addr.add_mid] at this
        simpa [Nat.add_assoc] using this

theorem inInts_of {H : Type} {enc : TypeId × Value → H} {W : World} {fuel : Nat} {v : Value} {x : DataW H × List MemPlace}
    (h : DataW.trod enc Try.prog W 0 (fun _ => true) true fuel 22 [v] = some x) : ∃ xs, InInts v xs W := by
  rcases open_slice Try.underlying22 h with ⟨hcs, _⟩ | ⟨a, len, cap, m, n, D, Pl, hcs, _, hl, hm, hmm, _, hel⟩
  · simp at hcs
    exact ⟨[], .inl ⟨_, _, hcs, rfl⟩⟩
  · simp at hcs
    subst hcs
    simp only [if_true] at hmm
    have hk : ∀ i, i < m → ∃ k : Int, W.cell? (a.add i) = some (.int .i64 k) := fun i hi => by
      obtain ⟨cs', h1, h2⟩ := hel i hi
      obtain ⟨p, e0, _, _⟩ := DataW.trod_int Try.underlying2 h2
      subst e0
      rw [cells_i64] at h1
      obtain ⟨_, _, h3⟩ := World.cells?_some h1
      have g0 := h3 0 (by omega)
      have e0 : (a.add (i * 1)).add 0 = a.add i := by simp [Addr.add]
      rw [e0] at g0
      exact ⟨p, by simpa using g0⟩
    obtain ⟨K, hK⟩ := choose_lt hk
    by_cases h0 : len = 0
    · subst h0
      exact ⟨[], .inl ⟨_, _, rfl, rfl⟩⟩
    · obtain ⟨b, off, rfl⟩ := addr_spot (hK 0 (by omega))
      refine ⟨(List.range len).map K, .inr ⟨b, off, cap, by simp, ?_, by simp; omega, fun i hi => ?_⟩⟩
      · have := World.block_lt_of_cell? _ _ (hK 0 (by omega))
        simpa [Addr.add] using this
      · have hi' : i < len := by simpa using hi
        have := hK i (by omega)
        rw [Addr.add_mid] at this
        simpa using this
end Go.Proofs.Ytplinjepeahahaa
