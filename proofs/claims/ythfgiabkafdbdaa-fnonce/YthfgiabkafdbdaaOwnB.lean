
/- Lists of truth values in memory of the call's own, and what the exact laws' helpers on them do. -/
import Derived.Test.YthfgiabkafdbdaaIntsR
namespace Go.Proofs.Ythfgiabkafdbdaa.Wn
open Go.RowKit

/-- The slice v holds the numbers xs, in a block at or beyond B. -/
def Bools (B : Nat) (v : Value) (xs : List Bool) (W : World) : Prop := W.ownsRow B 4 1 v xs.length (xs.map Value.bool)

theorem Bools.kept {B : Nat} {v : Value} {xs : List Bool} {W W' : World} {row : Option Nat} (h : Bools B v xs W) (hg : W.grownBy W' row) (hne : ∀ k, row = some k → v.ownBlock ≠ some k) : Bools B v xs W' := by
  refine World.ownsRow.kept h hg ?_
  cases row with
  | none => cases e : v.ownBlock <;> simp
  | some k => exact .inr (hne k rfl)
theorem Bools.mono {B B' : Nat} {v : Value} {xs : List Bool} {W : World} (h : Bools B v xs W) (hB : B' ≤ B) : Bools B' v xs W := by
  refine ⟨h.1, ?_⟩
  rcases h.2 with hn | ⟨g, cap, cur, e, hb, rest⟩
  · exact .inl hn
  · exact .inr ⟨g, cap, cur, e, by omega, rest⟩
theorem Bools.lt {B : Nat} {v : Value} {xs : List Bool} {W : World} (h : Bools B v xs W) : ∀ k, v.ownBlock = some k → B ≤ k ∧ k < W.heap.size := World.ownsRow.lt h

/-- The slice's own form: its length, and each of its cells. -/
theorem Bools.form {B : Nat} {v : Value} {xs : List Bool} {W : World} (h : Bools B v xs W) :
    (v = .slice none 0 0 ∧ xs = []) ∨ ∃ g cap, v = .slice (some ⟨g, 0, none⟩) xs.length cap ∧ B ≤ g ∧ g < W.heap.size ∧ xs.length ≤ cap ∧ cap ≤ maxLen ∧
      ∀ i (hi : i < xs.length), W.cell? ⟨g, i, none⟩ = some (.bool xs[i]) ∧ W.frozen? ⟨g, i, none⟩ = false := by
  obtain ⟨_, h2⟩ := h
  rcases h2 with ⟨e, hn⟩ | ⟨g, cap, cur, e, hb, hg, h1, h3, h4, h5⟩
  · exact .inl ⟨e, List.length_eq_zero_iff.1 hn⟩
  · refine .inr ⟨g, cap, e, hb, (Array.getElem?_eq_some_iff.1 hg).1, h1, h3, fun i hi => ?_⟩
    have hc : cur[i]? = some (.bool xs[i]) := by
      have := congrArg (fun l => l[i]?) h5
      simp [hi] at this
      simpa [Nat.mul_one, hi] using this
    have hlt : i < cur.size := (Array.getElem?_eq_some_iff.1 hc).1
    refine ⟨by simp [World.cell?, hg, hc], by simp [World.frozen?, hg]⟩

theorem Bools.len_le {B : Nat} {v : Value} {xs : List Bool} {W : World} (h : Bools B v xs W) : xs.length ≤ maxLen := by
  rcases h.form with ⟨_, rfl⟩ | ⟨g, cap, _, _, _, h1, h2, _⟩
  · exact Nat.zero_le _
  · omega


theorem Bools.drewN {B : Nat} {v : Value} {xs : List Bool} {W : World} (h : Bools B v xs W) (n : Nat) : Bools B v xs (W.drewN n) := h
theorem Bools.below {B C : Nat} {v : Value} {xs : List Bool} {W W' : World} (h : Bools B v xs W) (hb : Below C W W') (hC : ∀ k, v.ownBlock = some k → k < C) : Bools B v xs W' := by
  refine ⟨h.1, ?_⟩
  rcases h.2 with hn | ⟨g, cap, cur, rfl, hb', hg, rest⟩
  · exact .inl hn
  · refine .inr ⟨g, cap, cur, rfl, hb', ?_, rest⟩
    rw [hb.block g (hC g rfl)]
    exact hg

end Go.Proofs.Ythfgiabkafdbdaa.Wn
