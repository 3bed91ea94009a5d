
/- Lists of numbers: what the exact laws' helpers do that lay them anew: toInt64S, szInt64S. -/
import Derived.Test.YtplinjepeahahabOwnLaws
import Derived.Test.YtplinjepeahahabEqSeats
import Derived.Test.YtplinjepeahahabMem
namespace Go.Proofs.Ytplinjepeahahab
open Go.RowKit

theorem infoI : (Try.prog.info? 2).map (fun i => (i.zero, i.size, i.bytes)) = some (some (.int .i64 0), 1, 8) := by kernel_rfl
/-- Numbers lie in block b from offset 'off' on. -/
def ISeg (b off : Nat) (xs : List Int) (W : World) : Prop := ∀ i (hi : i < xs.length), W.cell? ⟨b, off + i, none⟩ = some (.int .i64 xs[i])
theorem ISeg.kept {b off : Nat} {xs : List Int} {W W' : World} (h : ISeg b off xs W) (hb : W'.heap[b]? = W.heap[b]?) : ISeg b off xs W' := fun i hi =>
  (World.cell?_of_block (a := ⟨b, off + i, none⟩) hb).trans (h i hi)
def IRow (a : Option Addr) (xs : List Int) (w : World) : Prop := xs = [] ∨ ∃ g, a = some ⟨g, 0, none⟩ ∧ g < w.heap.size ∧ ISeg g 0 xs w
theorem Ints.row {B : Nat} {v : Value} {xs : List Int} {w : World} (h : Ints B v xs w) : ∃ a c, v = .slice a xs.length c ∧ xs.length ≤ maxLen ∧ IRow a xs w := by
  rcases h.form with ⟨rfl, rfl⟩ | ⟨g, cap, rfl, _, g1, h1, h2, h3⟩
  · exact ⟨_, _, rfl, Nat.zero_le _, .inl rfl⟩
  · exact ⟨_, _, rfl, by omega, .inr ⟨g, rfl, g1, fun i hi => by rw [Nat.zero_add]; exact (h3 i hi).1⟩⟩
theorem Seats.row {B : Nat} {v : Value} {ks : List (Int × Int)} {w : World} (h : Seats B v ks w) : ∃ a c, v = .slice a ks.length c ∧ ks.length ≤ maxLen ∧ KRow a ks w := by
  rcases h.form with ⟨rfl, rfl⟩ | ⟨g, cap, rfl, _, g1, h1, h2, h3, _⟩
  · exact ⟨_, _, rfl, Nat.zero_le _, .inl rfl⟩
  · exact ⟨_, _, rfl, by omega, .inr ⟨g, rfl, g1, h3⟩⟩
theorem Ints.since {B : Nat} {v : Value} {xs : List Int} {W W' : World} (h : Ints B v xs W) (hb : Below W.heap.size W W') : Ints B v xs W' := h.below hb (fun k e => (h.lt k e).2)
theorem Seats.since {B : Nat} {v : Value} {ks : List (Int × Int)} {W W' : World} (h : Seats B v ks W) (hb : Below W.heap.size W W') : Seats B v ks W' := h.below hb (fun k e => (h.lt k e).2)

def partInts (xs : List Int) (i : Nat) : List Int := xs.take i ++ List.replicate (xs.length - i) 0
theorem partInts_length (xs : List Int) (i : Nat) (h : i ≤ xs.length) : (partInts xs i).length = xs.length := by simp [partInts]; omega
theorem partInts_set (xs : List Int) (i : Nat) (h : i < xs.length) : (partInts xs i).set i xs[i] = partInts xs (i + 1) := by
  unfold partInts
  have e : xs.length - i = (xs.length - (i + 1)) + 1 := by omega
  have hl : (xs.take i).length = i := by simp; omega
  rw [e, List.replicate_succ, List.take_succ_eq_append_getElem h, List.append_assoc, List.set_append_right _ _ (by omega), hl, Nat.sub_self, List.set_cons_zero]
  rfl
theorem Ints.stored {B g cap : Nat} {l : List Int} {n : Nat} {W : World} (hn : l.length = n) (h : Ints B (.slice (some ⟨g, 0, none⟩) n cap) l W) (i : Nat) (_ : i < l.length) (a : Int) :
    Ints B (.slice (some ⟨g, 0, none⟩) n cap) (l.set i a) (W.setCell ⟨g, i, none⟩ (.int .i64 a)) ∧ W.grownBy (W.setCell ⟨g, i, none⟩ (.int .i64 a)) (some g) := by
  subst hn
  have h1 := World.ownsRow.stored h i (.int .i64 a)
  refine ⟨?_, h1.2⟩
  unfold Ints
  rw [List.length_set, List.map_set]
  exact h1.1
theorem made_one (c : Value) (n : Nat) : (madeCells #[c] n).toList = List.replicate n c := by
  apply List.ext_getElem?
  intro j
  by_cases hj : j < n
  · simp [madeCells, hj, Nat.mod_one]
  · simp [madeCells, hj]

/-- A list of numbers, as it came in. -/
def InInts (v : Value) (xs : List Int) (W : World) : Prop :=
  (∃ a c, v = .slice a 0 c ∧ xs = []) ∨ ∃ b off c, v = .slice (some ⟨b, off, none⟩) xs.length c ∧ b < W.heap.size ∧ xs.length ≤ maxLen ∧ ISeg b off xs W
theorem InInts.below {v : Value} {xs : List Int} {W W' : World} {C : Nat} (h : InInts v xs W) (hb : Below C W W') (hC : W.heap.size ≤ C) : InInts v xs W' := by
  rcases h with h | ⟨b, off, c, e, hl, hm, hs⟩
  · exact .inl h
  · exact .inr ⟨b, off, c, e, by have := hb.size; omega, hm, hs.kept (hb.block b (by omega))⟩
theorem InInts.len {v : Value} {xs : List Int} {W : World} (h : InInts v xs W) : ∃ a c, v = .slice a xs.length c ∧ xs.length ≤ maxLen := by
  rcases h with ⟨a, c, rfl, rfl⟩ | ⟨b, off, c, rfl, _, hm, _⟩
  · exact ⟨_, _, rfl, Nat.zero_le _⟩
  · exact ⟨_, _, rfl, hm⟩

end Go.Proofs.Ytplinjepeahahab
