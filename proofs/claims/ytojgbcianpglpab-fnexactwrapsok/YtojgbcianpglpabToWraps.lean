
/- What the exact laws' helpers on lists of wraps do: toWrap, toWrapS, eqWrap, eqWrapS, szWrapS. -/
import Derived.Test.YtojgbcianpglpabKaTo
import Derived.Test.YtojgbcianpglpabWraps2
import Derived.Test.YtojgbcianpglpabEqKeys
namespace Go.Proofs.Ytojgbcianpglpab
open Go.RowKit
abbrev lwb (a b c d : Int) : Obj := .cells #[.int .i64 a, .int .i64 b, .int .i64 c, .int .i64 d] 46

set_option maxHeartbeats 1000000 in
theorem toWrap_any (a b c d : Int) (w : World) :
    Calls Try.prog 21 #[wv a b c d] w fun e w' => e = .returned (wv a b c d) ∧ Below w.heap.size w w' := by
  go_enter Try.func21, Try.ntmps21
  go_wp2_with fail
  refine (toKey_any _ _ _).mono ?_
  rintro e w1 ⟨rfl, rfl⟩
  go_wp2_with fail
  refine (toKey_any _ _ _).mono ?_
  rintro e w2 ⟨rfl, rfl⟩
  go_wp2
  refine bodyPost_ret (v := wv a b c d) (by simp [results, Try.results21, go_sem]) rfl ⟨rfl, ?_⟩
  repeat (refine Below.alloc ?_ (by first | exact Nat.le_refl _ | (simp only [World.size_alloc]; omega)) _)
  exact Below.refl _ _

theorem infoW : (Try.prog.info? 43).map (fun i => (i.zero, i.size, i.bytes)) = some (some (.agg #[.int .i64 0, .int .i64 0, .int .i64 0, .int .i64 0]), 4, 32) := by kernel_rfl

theorem szWrapS_any (a : Option Addr) (n c : Nat) (l : Int) (w : World) (hl : 0 ≤ l) (hl2 : l ≤ 1048576) (hn : n ≤ maxLen) :
    Calls Try.prog 10 #[.slice a n c, .int .i64 l] w fun e w' => e = .returned (.int .i64 (if l - (n : Int) < 0 then -1 else l - (n : Int))) ∧ w' = w := by
  unfold maxLen at hn
  by_cases h : l - (n : Int) < 0
  · rw [if_pos h]
    go_enter Try.func10, Try.ntmps10
    go_wp2
    go_ret
    exact ⟨rfl, rfl⟩
  · rw [if_neg h]
    go_enter Try.func10, Try.ntmps10
    go_wp2
    go_ret
    exact ⟨rfl, rfl⟩

/-- The wraps when i of them have been laid. -/
def partWraps (ws : List W4) (i : Nat) : List W4 := ws.take i ++ List.replicate (ws.length - i) (0, 0, 0, 0)
theorem partWraps_length (ws : List W4) (i : Nat) (h : i ≤ ws.length) : (partWraps ws i).length = ws.length := by simp [partWraps]; omega
theorem wcells_set (l : List W4) : ∀ (i : Nat) (a b c d : Int), i < l.length → ((((wcells l).set (i * 4) (.int .i64 a)).set (i * 4 + 1) (.int .i64 b)).set (i * 4 + 2) (.int .i64 c)).set (i * 4 + 3) (.int .i64 d) = wcells (l.set i (a, b, c, d)) := by
  induction l with
  | nil => intro i a b c d h; simp at h
  | cons k l ih =>
    intro i a b c d h
    match i, h with
    | 0, _ => simp [wcells]
    | i + 1, h =>
      have := ih i a b c d (by simpa using h)
      have e0 : (i + 1) * 4 = i * 4 + 1 + 1 + 1 + 1 := by omega
      have e1 : (i + 1) * 4 + 1 = i * 4 + 1 + 1 + 1 + 1 + 1 := by omega
      have e2 : (i + 1) * 4 + 2 = i * 4 + 2 + 1 + 1 + 1 + 1 := by omega
      have e3 : (i + 1) * 4 + 3 = i * 4 + 3 + 1 + 1 + 1 + 1 := by omega
      rw [e1, e2, e3, e0]
      simpa [wcells] using this
theorem partWraps_set (ws : List W4) (i : Nat) (h : i < ws.length) : (partWraps ws i).set i ws[i] = partWraps ws (i + 1) := by
  unfold partWraps
  have e : ws.length - i = (ws.length - (i + 1)) + 1 := by omega
  have hl : (ws.take i).length = i := by simp; omega
  rw [e, List.replicate_succ, List.take_succ_eq_append_getElem h, List.append_assoc, List.set_append_right _ _ (by omega), hl, Nat.sub_self, List.set_cons_zero]
  rfl
/-- The world with a wrap laid at place i of block g. -/
def putW (W : World) (g i : Nat) (a b c d : Int) : World := (((W.setCell ⟨g, i * 4, none⟩ (.int .i64 a)).setCell ⟨g, i * 4 + 1, none⟩ (.int .i64 b)).setCell ⟨g, i * 4 + 2, none⟩ (.int .i64 c)).setCell ⟨g, i * 4 + 3, none⟩ (.int .i64 d)
theorem Wraps.stored {B g cap : Nat} {l : List W4} {n : Nat} {W : World} (hn : l.length = n) (h : Wraps B (.slice (some ⟨g, 0, none⟩) n cap) l W) (i : Nat) (hi : i < l.length) (a b c d : Int) :
    Wraps B (.slice (some ⟨g, 0, none⟩) n cap) (l.set i (a, b, c, d)) (putW W g i a b c d) ∧ W.grownBy (putW W g i a b c d) (some g) := by
  subst hn
  have h1 := World.ownsRow.stored h (i * 4) (.int .i64 a)
  have h2 := h1.1.stored (i * 4 + 1) (.int .i64 b)
  have h3 := h2.1.stored (i * 4 + 2) (.int .i64 c)
  have h4 := h3.1.stored (i * 4 + 3) (.int .i64 d)
  rw [wcells_set _ _ _ _ _ _ hi] at h4
  refine ⟨?_, ((h1.2.trans h2.2).trans h3.2).trans h4.2⟩
  unfold Wraps
  rw [List.length_set]
  exact h4.1
theorem made_four (c : Value) (n : Nat) : (madeCells #[c, c, c, c] n).toList = List.replicate n c := by
  apply List.ext_getElem?
  intro j
  by_cases hj : j < n
  · have h2 : j % 4 = 0 ∨ j % 4 = 1 ∨ j % 4 = 2 ∨ j % 4 = 3 := by omega
    rcases h2 with h2 | h2 | h2 | h2 <;> simp [madeCells, hj, h2]
  · simp [madeCells, hj]
theorem wcells_zero (n : Nat) : wcells (List.replicate n (0, 0, 0, 0)) = List.replicate (n * 4) (.int .i64 0) := by
  induction n with
  | zero => rfl
  | succ n ih =>
    have e : (n + 1) * 4 = n * 4 + 1 + 1 + 1 + 1 := by omega
    rw [e, List.replicate_succ, List.replicate_succ, List.replicate_succ, List.replicate_succ, List.replicate_succ, ← ih]
    rfl

set_option maxRecDepth 100000 in
set_option maxHeartbeats 1000000 in
theorem toWrapS_row (b off c : Nat) (ws : List W4) (w : World) (hn : ws.length ≤ 1048576) (hb : b < w.heap.size) (hs : WSeg b off ws w) :
    Calls Try.prog 12 #[.slice (some ⟨b, off, none⟩) ws.length c] w fun e w' => ∃ v, e = .returned v ∧ v ≠ .slice none 0 0 ∧ Wraps w.heap.size v ws w' ∧ Below w.heap.size w w' := by
  obtain ⟨i0, hi, hz0, hz1, hz2⟩ := info_parts infoW
  generalize hN : ws.length = N at hn ⊢
  go_enter Try.func12, Try.ntmps12
  go_wp2_with (at_make; refine wpList_make_full _ rfl _ _ 32 rfl w.heap.size 43 i0 _ 4 Try.underlying32 hi hz0 hz1 .i64 .i64 _ _ N rfl rfl rfl rfl (by rw [hz2]; omega) (by unfold maxLen; omega) (Nat.le_refl _) ?_; intro w0 hown0 hgrow0)
  have hK0 : Wraps w.heap.size (.slice (some ⟨w.heap.size, 0, none⟩) N N) (partWraps ws 0) w0 := by
    unfold Wraps
    rw [partWraps_length _ _ (Nat.zero_le _), hN]
    have e : partWraps ws 0 = List.replicate N (0, 0, 0, 0) := by simp [partWraps, hN]
    rw [e, wcells_zero, ← made_four]
    exact hown0
  have hB0 : Below w.heap.size w w0 := below_grown hgrow0
  clear hown0
  go_loopw [4] (fun i wr => ∃ k : Nat, k ≤ N ∧ i = .int .i64 (k : Int) ∧ Wraps w.heap.size (.slice (some ⟨w.heap.size, 0, none⟩) N N) (partWraps ws k) wr ∧ Below w.heap.size w wr) (fun i _ => N - (intOf i).toNat)
  case atStart => exact ⟨0, Nat.zero_le _, rfl, hK0, hB0⟩
  case round =>
    obtain ⟨k, hk, rfl, hK, hB⟩ := hrel
    clear hK0 hB0 hgrow0
    by_cases hlt : k < N
    · have hkl : k < ws.length := by omega
      obtain ⟨c1, c2, c3, c4⟩ := hs k hkl
      have d1 := (hB.cell (p := ⟨b, off + k * 4, none⟩) hb).trans c1
      have d2 := (hB.cell (p := ⟨b, off + k * 4 + 1, none⟩) hb).trans c2
      have d3 := (hB.cell (p := ⟨b, off + k * 4 + 2, none⟩) hb).trans c3
      have d4 := (hB.cell (p := ⟨b, off + k * 4 + 3, none⟩) hb).trans c4
      have hpl : (partWraps ws k).length = N := by rw [partWraps_length _ _ (by omega), hN]
      have HS : Hid (WSeg b off ws w) := hs
      clear hs c1 c2 c3 c4
      generalize hk1 : ws[k].1 = x1 at d1
      generalize hk2 : ws[k].2.1 = x2 at d2
      generalize hk3 : ws[k].2.2.1 = x3 at d3
      generalize hk4 : ws[k].2.2.2 = x4 at d4
      have HK : Hid (ws[k] = (x1, x2, x3, x4)) := by
        show ws[k] = _
        rw [← hk1, ← hk2, ← hk3, ← hk4]
      clear hk1 hk2 hk3 hk4
      go_wp2_with fail
      refine (toWrap_any _ _ _ _ _).mono ?_
      rintro e w2 ⟨rfl, hb2⟩
      have hK2 := hK.below hb2 (fun j e => (hK.lt j e).2)
      have hB2 := hB.trans (hb2.mono hB.size)
      clear hK hB d1 d2 d3 d4 hb2
      have hst := Wraps.stored hpl hK2 k (by omega) x1 x2 x3 x4
      rcases hK2.form with ⟨e, _⟩ | ⟨g, cap, e, _, _, _, _, hseg, hfr⟩
      · cases e
      simp only [Value.slice.injEq, Option.some.injEq, Addr.mk.injEq] at e
      obtain ⟨⟨rfl, -⟩, -, -⟩ := e
      obtain ⟨s1, s2, s3, s4⟩ := hseg k (by omega)
      have f1 := hfr (k * 4)
      have f2 := hfr (k * 4 + 1)
      have f3 := hfr (k * 4 + 2)
      have f4 := hfr (k * 4 + 3)
      simp only [Nat.zero_add] at s1 s2 s3 s4
      obtain ⟨y1, s1⟩ : ∃ x1, w2.cell? ⟨w.heap.size, k * 4, none⟩ = some x1 := ⟨_, s1⟩
      obtain ⟨y2, s2⟩ : ∃ x2, w2.cell? ⟨w.heap.size, k * 4 + 1, none⟩ = some x2 := ⟨_, s2⟩
      obtain ⟨y3, s3⟩ : ∃ x2, w2.cell? ⟨w.heap.size, k * 4 + 2, none⟩ = some x2 := ⟨_, s3⟩
      obtain ⟨y4, s4⟩ : ∃ x2, w2.cell? ⟨w.heap.size, k * 4 + 3, none⟩ = some x2 := ⟨_, s4⟩
      have hfin : Wraps w.heap.size (.slice (some ⟨w.heap.size, 0, none⟩) N N) (partWraps ws (k + 1)) (putW w2 w.heap.size k x1 x2 x3 x4) := by
        rw [← partWraps_set ws k hkl, HK.out]; exact hst.1
      have HF : Hid (_ ∧ _) := And.intro hfin (hB2.grown hst.2 hB2.size (fun j e => by cases e; exact Nat.le_refl _))
      clear hfin hst hseg hfr hK2 hB2
      go_wp2
      go_roundw
      case rel => exact ⟨k + 1, by omega, by go_num, HF.out.1, HF.out.2⟩
      case measure => simp [intOf]; omega
    · have : k = N := by omega
      subst this
      go_wp2
      go_ret
      refine ⟨_, rfl, by simp, ?_, hB⟩
      have e : partWraps ws k = ws := by simp [partWraps, ← hN]
      rwa [e] at hK

/-- A list of the laws' wraps, as it came in. -/
def InWraps (v : Value) (ws : List W4) (W : World) : Prop :=
  (∃ a c, v = .slice a 0 c ∧ ws = []) ∨ ∃ b off c, v = .slice (some ⟨b, off, none⟩) ws.length c ∧ b < W.heap.size ∧ ws.length ≤ maxLen ∧ WSeg b off ws W
theorem InWraps.below {v : Value} {ws : List W4} {W W' : World} {C : Nat} (h : InWraps v ws W) (hb : Below C W W') (hC : W.heap.size ≤ C) : InWraps v ws W' := by
  rcases h with h | ⟨b, off, c, e, hl, hm, hs⟩
  · exact .inl h
  · exact .inr ⟨b, off, c, e, by have := hb.size; omega, hm, hs.kept (hb.block b (by omega))⟩
theorem InWraps.len {v : Value} {ws : List W4} {W : World} (h : InWraps v ws W) : ∃ a c, v = .slice a ws.length c ∧ ws.length ≤ maxLen := by
  rcases h with ⟨a, c, rfl, rfl⟩ | ⟨b, off, c, rfl, _, hm, _⟩
  · exact ⟨_, _, rfl, Nat.zero_le _⟩
  · exact ⟨_, _, rfl, hm⟩

theorem toWrapS_any (v : Value) (ws : List W4) (w : World) (h : InWraps v ws w) (hn : ws.length ≤ 1048576) :
    Calls Try.prog 12 #[v] w fun e w' => ∃ v', e = .returned v' ∧ v' ≠ .slice none 0 0 ∧ Wraps w.heap.size v' ws w' ∧ Below w.heap.size w w' := by
  rcases h with ⟨a, c, rfl, rfl⟩ | ⟨b, off, c, rfl, hl, hm, hs⟩
  · obtain ⟨i0, hi, hz0, hz1, hz2⟩ := info_parts infoW
    go_enter Try.func12, Try.ntmps12
    go_wp2_with (at_make; refine wpList_make_full _ rfl _ _ 32 rfl w.heap.size 43 i0 _ 4 Try.underlying32 hi hz0 hz1 .i64 .i64 _ _ 0 rfl rfl rfl rfl (by omega) (by unfold maxLen; omega) (Nat.le_refl _) ?_; intro w0 hown0 hgrow0)
    refine wp_loop_rounds 1 ?_
    rw [rounds_succ]
    go_wp2
    go_ret
    have e0 : (madeCells (Value.agg #[.int .i64 0, .int .i64 0, .int .i64 0, .int .i64 0]).cells (0 * 4)).toList = [] := by simp [madeCells]
    rw [e0] at hown0
    exact ⟨_, rfl, by simp, hown0, below_grown hgrow0⟩
  · exact toWrapS_row b off c ws w hn hl hs
end Go.Proofs.Ytojgbcianpglpab
