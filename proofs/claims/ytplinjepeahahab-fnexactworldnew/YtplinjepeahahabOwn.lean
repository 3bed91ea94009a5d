
/- Lists of numbers in memory of the call's own: what the laws' helpers on them do. -/
import Derived.Test.YtplinjepeahahabRows
import Derived.WalkKit
import Derived.WalkSpells
import Derived.WalkLawsBesides
import Derived.Deep.QuietTactic
import Derived.BigQuiet
import Derived.Maps.Range
import Derived.Maps.RangeWalk
import Derived.Maps.AppendAt
import Derived.Deep.AppendLies
namespace Go.Proofs.Ytplinjepeahahab
open Go.RowKit

/-- The slice v holds the numbers xs, in a block at or beyond B. -/
def Ints (B : Nat) (v : Value) (xs : List Int) (W : World) : Prop := W.ownsRow B 2 1 v xs.length (xs.map (Value.int .i64))

theorem Ints.kept {B : Nat} {v : Value} {xs : List Int} {W W' : World} {row : Option Nat} (h : Ints B v xs W) (hg : W.grownBy W' row) (hne : ∀ k, row = some k → v.ownBlock ≠ some k) : Ints B v xs W' := by
  refine World.ownsRow.kept h hg ?_
  cases row with
  | none => cases e : v.ownBlock <;> simp
  | some k => exact .inr (hne k rfl)
theorem Ints.mono {B B' : Nat} {v : Value} {xs : List Int} {W : World} (h : Ints B v xs W) (hB : B' ≤ B) : Ints B' v xs W := by
  refine ⟨h.1, ?_⟩
  rcases h.2 with hn | ⟨g, cap, cur, e, hb, rest⟩
  · exact .inl hn
  · exact .inr ⟨g, cap, cur, e, by omega, rest⟩
theorem Ints.lt {B : Nat} {v : Value} {xs : List Int} {W : World} (h : Ints B v xs W) : ∀ k, v.ownBlock = some k → B ≤ k ∧ k < W.heap.size := World.ownsRow.lt h

/-- The slice's own form: its length, and each of its cells. -/
theorem Ints.form {B : Nat} {v : Value} {xs : List Int} {W : World} (h : Ints B v xs W) :
    (v = .slice none 0 0 ∧ xs = []) ∨ ∃ g cap, v = .slice (some ⟨g, 0, none⟩) xs.length cap ∧ B ≤ g ∧ g < W.heap.size ∧ xs.length ≤ cap ∧ cap ≤ maxLen ∧
      ∀ i (hi : i < xs.length), W.cell? ⟨g, i, none⟩ = some (.int .i64 xs[i]) ∧ W.frozen? ⟨g, i, none⟩ = false := by
  obtain ⟨_, h2⟩ := h
  rcases h2 with ⟨e, hn⟩ | ⟨g, cap, cur, e, hb, hg, h1, h3, h4, h5⟩
  · exact .inl ⟨e, List.length_eq_zero_iff.1 hn⟩
  · refine .inr ⟨g, cap, e, hb, (Array.getElem?_eq_some_iff.1 hg).1, h1, h3, fun i hi => ?_⟩
    have hc : cur[i]? = some (.int .i64 xs[i]) := by
      have := congrArg (fun l => l[i]?) h5
      simp [hi] at this
      simpa [Nat.mul_one, hi] using this
    have hlt : i < cur.size := (Array.getElem?_eq_some_iff.1 hc).1
    refine ⟨by simp [World.cell?, hg, hc], by simp [World.frozen?, hg]⟩

theorem Ints.len_le {B : Nat} {v : Value} {xs : List Int} {W : World} (h : Ints B v xs W) : xs.length ≤ maxLen := by
  rcases h.form with ⟨_, rfl⟩ | ⟨g, cap, _, _, _, h1, h2, _⟩
  · exact Nat.zero_le _
  · omega


/-- Behind an append to a row of the call's own nothing below has turned. -/
theorem app_below {B : Nat} {v : Value} {xs : List Int} {w wr w2 : World} {o : Obj} (hI : Ints B v xs wr) (hB : Below B w wr) (hg : (wr.alloc o).grownBy w2 v.ownBlock) (hle : B ≤ wr.heap.size := by omega) : Below B w w2 :=
  (hB.alloc hle o).grown hg (by simp; omega) (fun k e => (hI.lt k e).1)
theorem Ints.drewN {B : Nat} {v : Value} {xs : List Int} {W : World} (h : Ints B v xs W) (n : Nat) : Ints B v xs (W.drewN n) := h
theorem Ints.below {B C : Nat} {v : Value} {xs : List Int} {W W' : World} (h : Ints B v xs W) (hb : Below C W W') (hC : ∀ k, v.ownBlock = some k → k < C) : Ints B v xs W' := by
  refine ⟨h.1, ?_⟩
  rcases h.2 with hn | ⟨g, cap, cur, rfl, hb', hg, rest⟩
  · exact .inl hn
  · refine .inr ⟨g, cap, cur, rfl, hb', ?_, rest⟩
    rw [hb.block g (hC g rfl)]
    exact hg

end Go.Proofs.Ytplinjepeahahab
