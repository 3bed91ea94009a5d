/- What the exact laws' helpers on lists of keys do: toKeyS, eqKey, eqKeyS, szKeyS. -/
import Derived.Test.YtfcmpcddnaglkaaKeys
import Derived.Test.YtfcmpcddnaglkaaKaTo
namespace Go.Proofs.Ytfcmpcddnaglkaa
open Go.RowKit

theorem infoK : (Try.prog.info? 33).map (fun i => (i.zero, i.size, i.bytes)) = some (some (.agg #[.int .i64 0, .int .i64 0]), 2, 16) := by kernel_rfl

theorem szKeyS_any (a : Option Addr) (n c : Nat) (l : Int) (w : World) (hl : 0 ≤ l) (hl2 : l ≤ 1048576) (hn : n ≤ maxLen) :
    Calls Try.prog 9 #[.slice a n c, .int .i64 l] w fun e w' => e = .returned (.int .i64 (if l - (n : Int) < 0 then -1 else l - (n : Int))) ∧ w' = w := by
  unfold maxLen at hn
  by_cases h : l - (n : Int) < 0
  · rw [if_pos h]
    go_enter Try.func9, Try.ntmps9
    go_wp2
    go_ret
    exact ⟨rfl, rfl⟩
  · rw [if_neg h]
    go_enter Try.func9, Try.ntmps9
    go_wp2
    go_ret
    exact ⟨rfl, rfl⟩

/-- The keys when i of them have been laid. -/
def partKeys (ks : List (Int × Int)) (i : Nat) : List (Int × Int) := ks.take i ++ List.replicate (ks.length - i) (0, 0)
theorem partKeys_length (ks : List (Int × Int)) (i : Nat) (h : i ≤ ks.length) : (partKeys ks i).length = ks.length := by simp [partKeys]; omega
theorem kcells_set (l : List (Int × Int)) : ∀ (i : Nat) (a b : Int), i < l.length → ((kcells l).set (i * 2) (.int .i64 a)).set (i * 2 + 1) (.int .i64 b) = kcells (l.set i (a, b)) := by
  induction l with
  | nil => intro i a b h; simp at h
  | cons k l ih =>
    intro i a b h
    match i, h with
    | 0, _ => simp [kcells]
    | i + 1, h =>
      have := ih i a b (by simpa using h)
      have e1 : (i + 1) * 2 = i * 2 + 1 + 1 := by omega
      have e2 : (i + 1) * 2 + 1 = i * 2 + 1 + 1 + 1 := by omega
      rw [e2, e1]
      simpa [kcells] using this
theorem partKeys_set (ks : List (Int × Int)) (i : Nat) (h : i < ks.length) : (partKeys ks i).set i ks[i] = partKeys ks (i + 1) := by
  unfold partKeys
  have e : ks.length - i = (ks.length - (i + 1)) + 1 := by omega
  have hl : (ks.take i).length = i := by simp; omega
  rw [e, List.replicate_succ, List.take_succ_eq_append_getElem h, List.append_assoc, List.set_append_right _ _ (by omega), hl, Nat.sub_self, List.set_cons_zero]
  rfl
theorem Keys.stored {B g cap : Nat} {l : List (Int × Int)} {n : Nat} {W : World} (hn : l.length = n) (h : Keys B (.slice (some ⟨g, 0, none⟩) n cap) l W) (i : Nat) (hi : i < l.length) (a b : Int) :
    Keys B (.slice (some ⟨g, 0, none⟩) n cap) (l.set i (a, b)) ((W.setCell ⟨g, i * 2, none⟩ (.int .i64 a)).setCell ⟨g, i * 2 + 1, none⟩ (.int .i64 b)) ∧
      W.grownBy ((W.setCell ⟨g, i * 2, none⟩ (.int .i64 a)).setCell ⟨g, i * 2 + 1, none⟩ (.int .i64 b)) (some g) := by
  subst hn
  have h1 := World.ownsRow.stored h (i * 2) (.int .i64 a)
  have h2 := h1.1.stored (i * 2 + 1) (.int .i64 b)
  rw [kcells_set _ _ _ _ hi] at h2
  refine ⟨?_, h1.2.trans h2.2⟩
  unfold Keys
  rw [List.length_set]
  exact h2.1
theorem made_two (c : Value) (n : Nat) : (madeCells #[c, c] n).toList = List.replicate n c := by
  apply List.ext_getElem?
  intro j
  by_cases hj : j < n
  · have h2 : j % 2 = 0 ∨ j % 2 = 1 := by omega
    rcases h2 with h2 | h2 <;> simp [madeCells, hj, h2]
  · simp [madeCells, hj]
theorem kcells_zero (n : Nat) : kcells (List.replicate n (0, 0)) = List.replicate (n * 2) (.int .i64 0) := by
  induction n with
  | zero => rfl
  | succ n ih =>
    have e : (n + 1) * 2 = n * 2 + 1 + 1 := by omega
    rw [e, List.replicate_succ, List.replicate_succ, List.replicate_succ, ← ih]
    rfl

theorem below_grown {W W' : World} (h : W.grownBy W' none) : Below W.heap.size W W' := ⟨h.os, h.tape, h.output, h.size, fun k hk => h.block k hk (by simp)⟩

set_option maxRecDepth 100000 in
set_option maxHeartbeats 1000000 in
theorem toKeyS_row (b off c : Nat) (ks : List (Int × Int)) (w : World) (hn : ks.length ≤ 1048576) (hb : b < w.heap.size) (hs : KSeg b off ks w) :
    Calls Try.prog 12 #[.slice (some ⟨b, off, none⟩) ks.length c] w fun e w' => ∃ v, e = .returned v ∧ v ≠ .slice none 0 0 ∧ Keys w.heap.size v ks w' ∧ Below w.heap.size w w' := by
  obtain ⟨i0, hi, hz0, hz1, hz2⟩ := info_parts infoK
  generalize hN : ks.length = N at hn ⊢
  go_enter Try.func12, Try.ntmps12
  go_wp2_with (at_make; refine wpList_make_full _ rfl _ _ 29 rfl w.heap.size 33 i0 _ 2 Try.underlying29 hi hz0 hz1 .i64 .i64 _ _ N rfl rfl rfl rfl (by rw [hz2]; omega) (by unfold maxLen; omega) (Nat.le_refl _) ?_; intro w0 hown0 hgrow0)
  have hK0 : Keys w.heap.size (.slice (some ⟨w.heap.size, 0, none⟩) N N) (partKeys ks 0) w0 := by
    unfold Keys
    rw [partKeys_length _ _ (Nat.zero_le _), hN]
    have e : partKeys ks 0 = List.replicate N (0, 0) := by simp [partKeys, hN]
    rw [e, kcells_zero, ← made_two]
    exact hown0
  have hB0 : Below w.heap.size w w0 := below_grown hgrow0
  clear hown0
  go_loopw [4] (fun i wr => ∃ k : Nat, k ≤ N ∧ i = .int .i64 (k : Int) ∧ Keys w.heap.size (.slice (some ⟨w.heap.size, 0, none⟩) N N) (partKeys ks k) wr ∧ Below w.heap.size w wr) (fun i _ => N - (intOf i).toNat)
  case atStart => exact ⟨0, Nat.zero_le _, rfl, hK0, hB0⟩
  case round =>
    obtain ⟨k, hk, rfl, hK, hB⟩ := hrel
    clear hK0 hB0 hgrow0
    by_cases hlt : k < N
    · have hkl : k < ks.length := by omega
      obtain ⟨c1, c2⟩ := hs k hkl
      have d1 : wr.cell? ⟨b, off + k * 2, none⟩ = some (.int .i64 ks[k].1) := (hB.cell (p := ⟨b, off + k * 2, none⟩) hb).trans c1
      have d2 : wr.cell? ⟨b, off + k * 2 + 1, none⟩ = some (.int .i64 ks[k].2) := (hB.cell (p := ⟨b, off + k * 2 + 1, none⟩) hb).trans c2
      have hpl : (partKeys ks k).length = N := by rw [partKeys_length _ _ (by omega), hN]
      have HS : Hid (KSeg b off ks w) := hs
      clear hs c1 c2
      generalize hk1 : ks[k].1 = p at d1
      generalize hk2 : ks[k].2 = q at d2
      have HK : Hid (ks[k] = (p, q)) := Prod.ext hk1 hk2
      clear hk1 hk2
      go_wp2_with fail
      refine (toKey_below _ _ _).mono ?_
      rintro e w2 ⟨rfl, hb2⟩
      have hK2 := hK.below hb2 (fun j e => (hK.lt j e).2)
      have hB2 := hB.trans (hb2.mono hB.size)
      clear hK hB d1 d2 hb2
      have hst := Keys.stored hpl hK2 k (by omega) p q
      rcases hK2.form with ⟨e, _⟩ | ⟨g, cap, e, _, _, _, _, hseg, hfr⟩
      · cases e
      simp only [Value.slice.injEq, Option.some.injEq, Addr.mk.injEq] at e
      obtain ⟨⟨rfl, -⟩, -, -⟩ := e
      obtain ⟨s1, s2⟩ := hseg k (by omega)
      have f1 := hfr (k * 2)
      have f2 := hfr (k * 2 + 1)
      simp only [Nat.zero_add] at s1 s2
      obtain ⟨x1, s1⟩ : ∃ x1, w2.cell? ⟨w.heap.size, k * 2, none⟩ = some x1 := ⟨_, s1⟩
      obtain ⟨x2, s2⟩ : ∃ x2, w2.cell? ⟨w.heap.size, k * 2 + 1, none⟩ = some x2 := ⟨_, s2⟩
      have hfin : Keys w.heap.size (.slice (some ⟨w.heap.size, 0, none⟩) N N) (partKeys ks (k + 1)) ((w2.setCell ⟨w.heap.size, k * 2, none⟩ (.int .i64 p)).setCell ⟨w.heap.size, k * 2 + 1, none⟩ (.int .i64 q)) := by
        rw [← partKeys_set ks k hkl, HK.out]; exact hst.1
      have HF : Hid (_ ∧ _) := And.intro hfin (hB2.grown hst.2 hB2.size (fun j e => by cases e; exact Nat.le_refl _))
      clear hfin hst hseg hfr hK2 hB2
      go_wp2
      go_roundw
      case rel => exact ⟨k + 1, by omega, by go_num, HF.out.1, HF.out.2⟩
      case measure => simp [intOf]; omega
    · have : k = N := by omega
      subst this
      go_wp2
      go_ret
      refine ⟨_, rfl, by simp, ?_, hB⟩
      have e : partKeys ks k = ks := by simp [partKeys, ← hN]
      rwa [e] at hK

/-- A list of the laws' keys, as it came in. -/
def InKeys (v : Value) (ks : List (Int × Int)) (W : World) : Prop :=
  (∃ a c, v = .slice a 0 c ∧ ks = []) ∨ ∃ b off c, v = .slice (some ⟨b, off, none⟩) ks.length c ∧ b < W.heap.size ∧ ks.length ≤ maxLen ∧ KSeg b off ks W
theorem InKeys.below {v : Value} {ks : List (Int × Int)} {W W' : World} {C : Nat} (h : InKeys v ks W) (hb : Below C W W') (hC : W.heap.size ≤ C) : InKeys v ks W' := by
  rcases h with h | ⟨b, off, c, e, hl, hm, hs⟩
  · exact .inl h
  · exact .inr ⟨b, off, c, e, by have := hb.size; omega, hm, hs.kept (hb.block b (by omega))⟩
theorem InKeys.len {v : Value} {ks : List (Int × Int)} {W : World} (h : InKeys v ks W) : ∃ a c, v = .slice a ks.length c ∧ ks.length ≤ maxLen := by
  rcases h with ⟨a, c, rfl, rfl⟩ | ⟨b, off, c, rfl, _, hm, _⟩
  · exact ⟨_, _, rfl, Nat.zero_le _⟩
  · exact ⟨_, _, rfl, hm⟩

theorem toKeyS_any (v : Value) (ks : List (Int × Int)) (w : World) (h : InKeys v ks w) (hn : ks.length ≤ 1048576) :
    Calls Try.prog 12 #[v] w fun e w' => ∃ v', e = .returned v' ∧ v' ≠ .slice none 0 0 ∧ Keys w.heap.size v' ks w' ∧ Below w.heap.size w w' := by
  rcases h with ⟨a, c, rfl, rfl⟩ | ⟨b, off, c, rfl, hl, hm, hs⟩
  · obtain ⟨i0, hi, hz0, hz1, hz2⟩ := info_parts infoK
    go_enter Try.func12, Try.ntmps12
    go_wp2_with (at_make; refine wpList_make_full _ rfl _ _ 29 rfl w.heap.size 33 i0 _ 2 Try.underlying29 hi hz0 hz1 .i64 .i64 _ _ 0 rfl rfl rfl rfl (by omega) (by unfold maxLen; omega) (Nat.le_refl _) ?_; intro w0 hown0 hgrow0)
    refine wp_loop_rounds 1 ?_
    rw [rounds_succ]
    go_wp2
    go_ret
    have e0 : (madeCells (Value.agg #[.int .i64 0, .int .i64 0]).cells (0 * 2)).toList = [] := by simp [madeCells]
    rw [e0] at hown0
    exact ⟨_, rfl, by simp, hown0, below_grown hgrow0⟩
  · exact toKeyS_row b off c ks w hn hl hs
end Go.Proofs.Ytfcmpcddnaglkaa
