
/- Lists of numbers: what the exact laws' helpers do that lay them anew: toInt64S, szInt64S. -/
import Derived.Test.YtplinjepeahahaaOwnLaws
import Derived.Test.YtplinjepeahahaaEqSeats
import Derived.Test.YtplinjepeahahaaMem
namespace Go.Proofs.Ytplinjepeahahaa
open Go.RowKit

theorem infoI : (Try.prog.info? 2).map (fun i => (i.zero, i.size, i.bytes)) = some (some (.int .i64 0), 1, 8) := by kernel_rfl
/-- Numbers lie in block b from offset 'off' on. -/
def ISeg (b off : Nat) (xs : List Int) (W : World) : Prop := ∀ i (hi : i < xs.length), W.cell? ⟨b, off + i, none⟩ = some (.int .i64 xs[i])
theorem ISeg.kept {b off : Nat} {xs : List Int} {W W' : World} (h : ISeg b off xs W) (hb : W'.heap[b]? = W.heap[b]?) : ISeg b off xs W' := fun i hi =>
  (World.cell?_of_block (a := ⟨b, off + i, none⟩) hb).trans (h i hi)
def IRow (a : Option Addr) (xs : List Int) (w : World) : Prop := xs = [] ∨ ∃ g, a = some ⟨g, 0, none⟩ ∧ g < w.heap.size ∧ ISeg g 0 xs w
theorem Ints.row {B : Nat} {v : Value} {xs : List Int} {w : World} (h : Ints B v xs w) : ∃ a c, v = .slice a xs.length c ∧ xs.length ≤ maxLen ∧ IRow a xs w := by
  rcases h.form with ⟨rfl, rfl⟩ | ⟨g, cap, rfl, _, g1, h1, h2, h3⟩
  · exact ⟨_, _, rfl, Nat.zero_le _, .inl rfl⟩
  · exact ⟨_, _, rfl, by omega, .inr ⟨g, rfl, g1, fun i hi => by rw [Nat.zero_add]; exact (h3 i hi).1⟩⟩
theorem Seats.row {B : Nat} {v : Value} {ks : List (Int × Int)} {w : World} (h : Seats B v ks w) : ∃ a c, v = .slice a ks.length c ∧ ks.length ≤ maxLen ∧ KRow a ks w := by
  rcases h.form with ⟨rfl, rfl⟩ | ⟨g, cap, rfl, _, g1, h1, h2, h3, _⟩
  · exact ⟨_, _, rfl, Nat.zero_le _, .inl rfl⟩
  · exact ⟨_, _, rfl, by omega, .inr ⟨g, rfl, g1, h3⟩⟩
theorem Ints.since {B : Nat} {v : Value} {xs : List Int} {W W' : World} (h : Ints B v xs W) (hb : Below W.heap.size W W') : Ints B v xs W' := h.below hb (fun k e => (h.lt k e).2)
theorem Seats.since {B : Nat} {v : Value} {ks : List (Int × Int)} {W W' : World} (h : Seats B v ks W) (hb : Below W.heap.size W W') : Seats B v ks W' := h.below hb (fun k e => (h.lt k e).2)

theorem szInt64S_any (a : Option Addr) (n c : Nat) (l : Int) (w : World) (hl : 0 ≤ l) (hl2 : l ≤ 1048576) (hn : n ≤ maxLen) :
    Calls Try.prog 36 #[.slice a n c, .int .i64 l] w fun e w' => e = .returned (.int .i64 (if l - (n : Int) < 0 then -1 else l - (n : Int))) ∧ w' = w := by
  unfold maxLen at hn
  by_cases h : l - (n : Int) < 0
  · rw [if_pos h]
    go_enter Try.func36, Try.ntmps36
    go_wp2
    go_ret
    exact ⟨rfl, rfl⟩
  · rw [if_neg h]
    go_enter Try.func36, Try.ntmps36
    go_wp2
    go_ret
    exact ⟨rfl, rfl⟩

def partInts (xs : List Int) (i : Nat) : List Int := xs.take i ++ List.replicate (xs.length - i) 0
theorem partInts_length (xs : List Int) (i : Nat) (h : i ≤ xs.length) : (partInts xs i).length = xs.length := by simp [partInts]; omega
theorem partInts_set (xs : List Int) (i : Nat) (h : i < xs.length) : (partInts xs i).set i xs[i] = partInts xs (i + 1) := by
  unfold partInts
  have e : xs.length - i = (xs.length - (i + 1)) + 1 := by omega
  have hl : (xs.take i).length = i := by simp; omega
  rw [e, List.replicate_succ, List.take_succ_eq_append_getElem h, List.append_assoc, List.set_append_right _ _ (by omega), hl, Nat.sub_self, List.set_cons_zero]
  rfl
theorem Ints.stored {B g cap : Nat} {l : List Int} {n : Nat} {W : World} (hn : l.length = n) (h : Ints B (.slice (some ⟨g, 0, none⟩) n cap) l W) (i : Nat) (_ : i < l.length) (a : Int) :
    Ints B (.slice (some ⟨g, 0, none⟩) n cap) (l.set i a) (W.setCell ⟨g, i, none⟩ (.int .i64 a)) ∧ W.grownBy (W.setCell ⟨g, i, none⟩ (.int .i64 a)) (some g) := by
  subst hn
  have h1 := World.ownsRow.stored h i (.int .i64 a)
  refine ⟨?_, h1.2⟩
  unfold Ints
  rw [List.length_set, List.map_set]
  exact h1.1
theorem made_one (c : Value) (n : Nat) : (madeCells #[c] n).toList = List.replicate n c := by
  apply List.ext_getElem?
  intro j
  by_cases hj : j < n
  · simp [madeCells, hj, Nat.mod_one]
  · simp [madeCells, hj]

set_option maxRecDepth 100000 in
set_option maxHeartbeats 1000000 in
theorem toInt64S_row (b off c : Nat) (xs : List Int) (w : World) (hn : xs.length ≤ 1048576) (hb : b < w.heap.size) (hs : ISeg b off xs w) :
    Calls Try.prog 39 #[.slice (some ⟨b, off, none⟩) xs.length c] w fun e w' => ∃ v, e = .returned v ∧ v ≠ .slice none 0 0 ∧ Ints w.heap.size v xs w' ∧ Below w.heap.size w w' := by
  obtain ⟨i0, hi, hz0, hz1, hz2⟩ := info_parts infoI
  generalize hN : xs.length = N at hn ⊢
  go_enter Try.func39, Try.ntmps39
  go_wp2_with (at_make; refine wpList_make_full _ rfl _ _ 22 rfl w.heap.size 2 i0 _ 1 Try.underlying22 hi hz0 hz1 .i64 .i64 _ _ N rfl rfl rfl rfl (by rw [hz2]; omega) (by unfold maxLen; omega) (Nat.le_refl _) ?_; intro w0 hown0 hgrow0)
  have hK0 : Ints w.heap.size (.slice (some ⟨w.heap.size, 0, none⟩) N N) (partInts xs 0) w0 := by
    unfold Ints
    rw [partInts_length _ _ (Nat.zero_le _), hN]
    have e : partInts xs 0 = List.replicate N 0 := by simp [partInts, hN]
    rw [e, List.map_replicate, ← made_one]
    simpa [Value.cells] using hown0
  have hB0 : Below w.heap.size w w0 := below_grown hgrow0
  clear hown0
  go_loopw [4] (fun i wr => ∃ k : Nat, k ≤ N ∧ i = .int .i64 (k : Int) ∧ Hid (Ints w.heap.size (.slice (some ⟨w.heap.size, 0, none⟩) N N) (partInts xs k) wr) ∧ Below w.heap.size w wr) (fun i _ => N - (intOf i).toNat)
  case atStart => exact ⟨0, Nat.zero_le _, rfl, hK0, hB0⟩
  case round =>
    obtain ⟨k, hk, rfl, HK, hB⟩ := hrel
    clear hK0 hB0 hgrow0
    have HS : Hid (ISeg b off xs w) := hs
    clear hs
    by_cases hlt : k < N
    · have hkl : k < xs.length := by omega
      have d1 : wr.cell? ⟨b, off + k, none⟩ = some (.int .i64 xs[k]) := (hB.cell (p := ⟨b, off + k, none⟩) hb).trans (HS.out k hkl)
      have hpl : (partInts xs k).length = N := by rw [partInts_length _ _ (by omega), hN]
      obtain ⟨hst, hgr⟩ := HK.out.stored hpl k (by omega) xs[k]
      rw [partInts_set xs k hkl] at hst
      rcases HK.out.form with ⟨e, _⟩ | ⟨g, cap, e, _, _, _, _, hseg⟩
      · cases e
      simp only [Value.slice.injEq, Option.some.injEq, Addr.mk.injEq] at e
      obtain ⟨⟨rfl, -⟩, -, -⟩ := e
      obtain ⟨s1, f1⟩ := hseg k (by omega)
      obtain ⟨x1, s1⟩ : ∃ x1, wr.cell? ⟨w.heap.size, k, none⟩ = some x1 := ⟨_, s1⟩
      have HF : Hid (Ints w.heap.size (.slice (some ⟨w.heap.size, 0, none⟩) N N) (partInts xs (k + 1)) (wr.setCell ⟨w.heap.size, k, none⟩ (.int .i64 xs[k])) ∧ Below w.heap.size w (wr.setCell ⟨w.heap.size, k, none⟩ (.int .i64 xs[k]))) :=
        ⟨hst, hB.grown hgr hB.size (fun j e => by cases e; exact Nat.le_refl _)⟩
      clear hst hgr hseg HK hB
      generalize xs[k] = p at d1 HF
      go_wp2
      go_roundw
      case rel => exact ⟨k + 1, by omega, by go_num, HF.out.1, HF.out.2⟩
      case measure => simp [intOf]; omega
    · have : k = N := by omega
      subst this
      go_wp2
      go_ret
      refine ⟨_, rfl, by simp, ?_, hB⟩
      have e : partInts xs k = xs := by simp [partInts, ← hN]
      have := HK.out
      rwa [e] at this

/-- A list of numbers, as it came in. -/
def InInts (v : Value) (xs : List Int) (W : World) : Prop :=
  (∃ a c, v = .slice a 0 c ∧ xs = []) ∨ ∃ b off c, v = .slice (some ⟨b, off, none⟩) xs.length c ∧ b < W.heap.size ∧ xs.length ≤ maxLen ∧ ISeg b off xs W
theorem InInts.below {v : Value} {xs : List Int} {W W' : World} {C : Nat} (h : InInts v xs W) (hb : Below C W W') (hC : W.heap.size ≤ C) : InInts v xs W' := by
  rcases h with h | ⟨b, off, c, e, hl, hm, hs⟩
  · exact .inl h
  · exact .inr ⟨b, off, c, e, by have := hb.size; omega, hm, hs.kept (hb.block b (by omega))⟩
theorem InInts.len {v : Value} {xs : List Int} {W : World} (h : InInts v xs W) : ∃ a c, v = .slice a xs.length c ∧ xs.length ≤ maxLen := by
  rcases h with ⟨a, c, rfl, rfl⟩ | ⟨b, off, c, rfl, _, hm, _⟩
  · exact ⟨_, _, rfl, Nat.zero_le _⟩
  · exact ⟨_, _, rfl, hm⟩

theorem toInt64S_any (v : Value) (xs : List Int) (w : World) (h : InInts v xs w) (hn : xs.length ≤ 1048576) :
    Calls Try.prog 39 #[v] w fun e w' => ∃ v', e = .returned v' ∧ v' ≠ .slice none 0 0 ∧ Ints w.heap.size v' xs w' ∧ Below w.heap.size w w' := by
  rcases h with ⟨a, c, rfl, rfl⟩ | ⟨b, off, c, rfl, hl, hm, hs⟩
  · obtain ⟨i0, hi, hz0, hz1, hz2⟩ := info_parts infoI
    go_enter Try.func39, Try.ntmps39
    go_wp2_with (at_make; refine wpList_make_full _ rfl _ _ 22 rfl w.heap.size 2 i0 _ 1 Try.underlying22 hi hz0 hz1 .i64 .i64 _ _ 0 rfl rfl rfl rfl (by omega) (by unfold maxLen; omega) (Nat.le_refl _) ?_; intro w0 hown0 hgrow0)
    refine wp_loop_rounds 1 ?_
    rw [rounds_succ]
    go_wp2
    go_ret
    have e0 : (madeCells (Value.int .i64 0).cells (0 * 1)).toList = [] := by simp [madeCells]
    rw [e0] at hown0
    exact ⟨_, rfl, by simp, hown0, below_grown hgrow0⟩
  · exact toInt64S_row b off c xs w hn hl hs
end Go.Proofs.Ytplinjepeahahaa
