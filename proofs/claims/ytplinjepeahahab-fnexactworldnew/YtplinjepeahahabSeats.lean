
/- Lists of seats in memory, and what the exact laws' helpers on them do: toSeat, toSeatS, szSeatS. -/
import Derived.Test.YtplinjepeahahabToKb
namespace Go.Proofs.Ytplinjepeahahab
open Go.RowKit
abbrev sb (n v : Int) : Obj := .cells #[.int .i64 n, .int .i64 v] 85

/-- The slice v holds the keys ks, in a block at or beyond B. -/
def Seats (B : Nat) (v : Value) (ks : List (Int × Int)) (W : World) : Prop := W.ownsRow B 85 2 v ks.length (kcells ks)

theorem Seats.kept {B : Nat} {v : Value} {ks : List (Int × Int)} {W W' : World} {row : Option Nat} (h : Seats B v ks W) (hg : W.grownBy W' row) (hne : ∀ k, row = some k → v.ownBlock ≠ some k) : Seats B v ks W' := by
  refine World.ownsRow.kept h hg ?_
  cases row with
  | none => cases e : v.ownBlock <;> simp
  | some k => exact .inr (hne k rfl)
theorem Seats.mono {B B' : Nat} {v : Value} {ks : List (Int × Int)} {W : World} (h : Seats B v ks W) (hB : B' ≤ B) : Seats B' v ks W := by
  refine ⟨h.1, ?_⟩
  rcases h.2 with hn | ⟨g, cap, cur, e, hb, rest⟩
  · exact .inl hn
  · exact .inr ⟨g, cap, cur, e, by omega, rest⟩
theorem Seats.lt {B : Nat} {v : Value} {ks : List (Int × Int)} {W : World} (h : Seats B v ks W) : ∀ k, v.ownBlock = some k → B ≤ k ∧ k < W.heap.size := World.ownsRow.lt h
theorem Seats.drewN {B : Nat} {v : Value} {ks : List (Int × Int)} {W : World} (h : Seats B v ks W) (n : Nat) : Seats B v ks (W.drewN n) := h
theorem Seats.below {B C : Nat} {v : Value} {ks : List (Int × Int)} {W W' : World} (h : Seats B v ks W) (hb : Below C W W') (hC : ∀ k, v.ownBlock = some k → k < C) : Seats B v ks W' := by
  refine ⟨h.1, ?_⟩
  rcases h.2 with hn | ⟨g, cap, cur, rfl, hb', hg, rest⟩
  · exact .inl hn
  · refine .inr ⟨g, cap, cur, rfl, hb', ?_, rest⟩
    rw [hb.block g (hC g rfl)]
    exact hg

theorem Seats.form {B : Nat} {v : Value} {ks : List (Int × Int)} {W : World} (h : Seats B v ks W) :
    (v = .slice none 0 0 ∧ ks = []) ∨ ∃ g cap, v = .slice (some ⟨g, 0, none⟩) ks.length cap ∧ B ≤ g ∧ g < W.heap.size ∧ ks.length ≤ cap ∧ cap ≤ maxLen ∧ KSeg g 0 ks W ∧ ∀ o, W.frozen? ⟨g, o, none⟩ = false := by
  obtain ⟨_, h2⟩ := h
  rcases h2 with ⟨e, hn⟩ | ⟨g, cap, cur, e, hb, hg, h1, h3, h4, h5⟩
  · exact .inl ⟨e, List.length_eq_zero_iff.1 hn⟩
  · refine .inr ⟨g, cap, e, hb, (Array.getElem?_eq_some_iff.1 hg).1, h1, h3, fun i hi => ?_, fun o => by simp [World.frozen?, hg]⟩
    have hk := kcells_get ks i hi
    have c1 : cur[i * 2]? = some (.int .i64 ks[i].1) := by
      have h := hk.1
      rw [← h5, List.getElem?_take_of_lt (by omega)] at h
      simpa using h
    have c2 : cur[i * 2 + 1]? = some (.int .i64 ks[i].2) := by
      have h := hk.2
      rw [← h5, List.getElem?_take_of_lt (by omega)] at h
      simpa using h
    exact ⟨by simp [World.cell?, hg, c1], by simp [World.cell?, hg, c2]⟩

theorem infoSt : (Try.prog.info? 85).map (fun i => (i.zero, i.size, i.bytes)) = some (some (.agg #[.int .i64 0, .int .i64 0]), 2, 16) := by kernel_rfl

theorem Seats.stored {B g cap : Nat} {l : List (Int × Int)} {n : Nat} {W : World} (hn : l.length = n) (h : Seats B (.slice (some ⟨g, 0, none⟩) n cap) l W) (i : Nat) (hi : i < l.length) (a b : Int) :
    Seats B (.slice (some ⟨g, 0, none⟩) n cap) (l.set i (a, b)) ((W.setCell ⟨g, i * 2, none⟩ (.int .i64 a)).setCell ⟨g, i * 2 + 1, none⟩ (.int .i64 b)) ∧
      W.grownBy ((W.setCell ⟨g, i * 2, none⟩ (.int .i64 a)).setCell ⟨g, i * 2 + 1, none⟩ (.int .i64 b)) (some g) := by
  subst hn
  have h1 := World.ownsRow.stored h (i * 2) (.int .i64 a)
  have h2 := h1.1.stored (i * 2 + 1) (.int .i64 b)
  rw [kcells_set _ _ _ _ hi] at h2
  refine ⟨?_, h1.2.trans h2.2⟩
  unfold Seats
  rw [List.length_set]
  exact h2.1
/-- A list of the laws' keys, as it came in. -/
def InSeats (v : Value) (ks : List (Int × Int)) (W : World) : Prop :=
  (∃ a c, v = .slice a 0 c ∧ ks = []) ∨ ∃ b off c, v = .slice (some ⟨b, off, none⟩) ks.length c ∧ b < W.heap.size ∧ ks.length ≤ maxLen ∧ KSeg b off ks W
theorem InSeats.below {v : Value} {ks : List (Int × Int)} {W W' : World} {C : Nat} (h : InSeats v ks W) (hb : Below C W W') (hC : W.heap.size ≤ C) : InSeats v ks W' := by
  rcases h with h | ⟨b, off, c, e, hl, hm, hs⟩
  · exact .inl h
  · exact .inr ⟨b, off, c, e, by have := hb.size; omega, hm, hs.kept (hb.block b (by omega))⟩
theorem InSeats.len {v : Value} {ks : List (Int × Int)} {W : World} (h : InSeats v ks W) : ∃ a c, v = .slice a ks.length c ∧ ks.length ≤ maxLen := by
  rcases h with ⟨a, c, rfl, rfl⟩ | ⟨b, off, c, rfl, _, hm, _⟩
  · exact ⟨_, _, rfl, Nat.zero_le _⟩
  · exact ⟨_, _, rfl, hm⟩

end Go.Proofs.Ytplinjepeahahab
