
/- Lists of keys: how they are laid anew, and as they come in. -/
import Derived.Test.YtplinjepeahahaaKeys
namespace Go.Proofs.Ytplinjepeahahaa
open Go.RowKit

theorem infoK : (Try.prog.info? 38).map (fun i => (i.zero, i.size, i.bytes)) = some (some (.agg #[.int .i64 0, .int .i64 0]), 2, 16) := by kernel_rfl

/-- The keys when i of them have been laid. -/
def partKeys (ks : List (Int × Int)) (i : Nat) : List (Int × Int) := ks.take i ++ List.replicate (ks.length - i) (0, 0)
theorem partKeys_length (ks : List (Int × Int)) (i : Nat) (h : i ≤ ks.length) : (partKeys ks i).length = ks.length := by simp [partKeys]; omega
theorem kcells_set (l : List (Int × Int)) : ∀ (i : Nat) (a b : Int), i < l.length → ((kcells l).set (i * 2) (.int .i64 a)).set (i * 2 + 1) (.int .i64 b) = kcells (l.set i (a, b)) := by
  induction l with
  | nil => intro i a b h; simp at h
  | cons k l ih =>
    intro i a b h
    match i, h with
    | 0, _ => simp [kcells]
    | i + 1, h =>
      have := ih i a b (by simpa using h)
      have e1 : (i + 1) * 2 = i * 2 + 1 + 1 := by omega
      have e2 : (i + 1) * 2 + 1 = i * 2 + 1 + 1 + 1 := by omega
      rw [e2, e1]
      simpa [kcells] using this
theorem partKeys_set (ks : List (Int × Int)) (i : Nat) (h : i < ks.length) : (partKeys ks i).set i ks[i] = partKeys ks (i + 1) := by
  unfold partKeys
  have e : ks.length - i = (ks.length - (i + 1)) + 1 := by omega
  have hl : (ks.take i).length = i := by simp; omega
  rw [e, List.replicate_succ, List.take_succ_eq_append_getElem h, List.append_assoc, List.set_append_right _ _ (by omega), hl, Nat.sub_self, List.set_cons_zero]
  rfl
theorem Keys.stored {B g cap : Nat} {l : List (Int × Int)} {n : Nat} {W : World} (hn : l.length = n) (h : Keys B (.slice (some ⟨g, 0, none⟩) n cap) l W) (i : Nat) (hi : i < l.length) (a b : Int) :
    Keys B (.slice (some ⟨g, 0, none⟩) n cap) (l.set i (a, b)) ((W.setCell ⟨g, i * 2, none⟩ (.int .i64 a)).setCell ⟨g, i * 2 + 1, none⟩ (.int .i64 b)) ∧
      W.grownBy ((W.setCell ⟨g, i * 2, none⟩ (.int .i64 a)).setCell ⟨g, i * 2 + 1, none⟩ (.int .i64 b)) (some g) := by
  subst hn
  have h1 := World.ownsRow.stored h (i * 2) (.int .i64 a)
  have h2 := h1.1.stored (i * 2 + 1) (.int .i64 b)
  rw [kcells_set _ _ _ _ hi] at h2
  refine ⟨?_, h1.2.trans h2.2⟩
  unfold Keys
  rw [List.length_set]
  exact h2.1
theorem made_two (c : Value) (n : Nat) : (madeCells #[c, c] n).toList = List.replicate n c := by
  apply List.ext_getElem?
  intro j
  by_cases hj : j < n
  · have h2 : j % 2 = 0 ∨ j % 2 = 1 := by omega
    rcases h2 with h2 | h2 <;> simp [madeCells, hj, h2]
  · simp [madeCells, hj]
theorem kcells_zero (n : Nat) : kcells (List.replicate n (0, 0)) = List.replicate (n * 2) (.int .i64 0) := by
  induction n with
  | zero => rfl
  | succ n ih =>
    have e : (n + 1) * 2 = n * 2 + 1 + 1 := by omega
    rw [e, List.replicate_succ, List.replicate_succ, List.replicate_succ, ← ih]
    rfl

theorem below_grown {W W' : World} (h : W.grownBy W' none) : Below W.heap.size W W' := ⟨h.os, h.tape, h.output, h.size, fun k hk => h.block k hk (by simp)⟩

/-- A list of the laws' keys, as it came in. -/
def InKeys (v : Value) (ks : List (Int × Int)) (W : World) : Prop :=
  (∃ a c, v = .slice a 0 c ∧ ks = []) ∨ ∃ b off c, v = .slice (some ⟨b, off, none⟩) ks.length c ∧ b < W.heap.size ∧ ks.length ≤ maxLen ∧ KSeg b off ks W
theorem InKeys.below {v : Value} {ks : List (Int × Int)} {W W' : World} {C : Nat} (h : InKeys v ks W) (hb : Below C W W') (hC : W.heap.size ≤ C) : InKeys v ks W' := by
  rcases h with h | ⟨b, off, c, e, hl, hm, hs⟩
  · exact .inl h
  · exact .inr ⟨b, off, c, e, by have := hb.size; omega, hm, hs.kept (hb.block b (by omega))⟩
theorem InKeys.len {v : Value} {ks : List (Int × Int)} {W : World} (h : InKeys v ks W) : ∃ a c, v = .slice a ks.length c ∧ ks.length ≤ maxLen := by
  rcases h with ⟨a, c, rfl, rfl⟩ | ⟨b, off, c, rfl, _, hm, _⟩
  · exact ⟨_, _, rfl, Nat.zero_le _⟩
  · exact ⟨_, _, rfl, hm⟩
end Go.Proofs.Ytplinjepeahahaa
