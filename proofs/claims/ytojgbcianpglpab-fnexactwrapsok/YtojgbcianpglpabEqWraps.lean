
/- What the laws' comparison of two lists of wraps does; a list of the laws' wraps that came in, opened. -/
import Derived.Test.YtojgbcianpglpabToWraps
import Derived.Test.YtojgbcianpglpabOpenKeys
namespace Go.Proofs.Ytojgbcianpglpab
open Go.RowKit

def sameW (x y : W4) : Bool := sameK x.1 x.2.1 y.1 y.2.1 && sameK x.2.2.1 x.2.2.2 y.2.2.1 y.2.2.2
theorem sameW_iff (x y : W4) : sameW x y = true ↔ x = y := by
  obtain ⟨a, b, c, d⟩ := x
  obtain ⟨a', b', c', d'⟩ := y
  simp [sameW, sameK]
  omega

set_option maxHeartbeats 1000000 in
theorem eqWrap_any (a b c d a' b' c' d' : Int) (w : World) :
    Calls Try.prog 22 #[wv a b c d, wv a' b' c' d'] w fun e w' => e = .returned (.bool (sameW (a, b, c, d) (a', b', c', d'))) ∧ Below w.heap.size w w' := by
  cases h1 : sameK a b a' b' with
  | false =>
    have hr : sameW (a, b, c, d) (a', b', c', d') = false := by unfold sameW; rw [h1]; rfl
    rw [hr]
    go_enter Try.func22, Try.ntmps22
    go_wp2_with fail
    refine (eqKey_any _ _ _ _ _).mono ?_
    rintro e w1 ⟨rfl, rfl⟩
    rw [h1]
    go_wp2
    go_ret
    refine ⟨rfl, ?_⟩
    repeat (refine Below.alloc ?_ (by first | exact Nat.le_refl _ | (simp only [World.size_alloc]; omega)) _)
    exact Below.refl _ _
  | true =>
    have hr : sameW (a, b, c, d) (a', b', c', d') = sameK c d c' d' := by unfold sameW; rw [h1]; simp
    rw [hr]
    go_enter Try.func22, Try.ntmps22
    go_wp2_with fail
    refine (eqKey_any _ _ _ _ _).mono ?_
    rintro e w1 ⟨rfl, rfl⟩
    rw [h1]
    go_wp2_with fail
    refine (eqKey_any _ _ _ _ _).mono ?_
    rintro e w2 ⟨rfl, rfl⟩
    have hB : Below w.heap.size w (((((w.alloc (wb a b c d)).alloc (wb a' b' c' d')).alloc (kb a b)).alloc (kb a' b')).alloc (kb c d)|>.alloc (kb c' d')) := by
      repeat (refine Below.alloc ?_ (by first | exact Nat.le_refl _ | (simp only [World.size_alloc]; omega)) _)
      exact Below.refl _ _
    cases h2 : sameK c d c' d' with
    | false =>
      go_wp2
      go_ret
      exact ⟨by rw [h2]; rfl, hB⟩
    | true =>
      go_wp2
      go_ret
      exact ⟨by rw [h2]; rfl, hB⟩

def eqLW (xs ys : List W4) : Bool := decide (xs = ys)
theorem eqWrapS_len (a b : Option Addr) (m n c d : Nat) (w : World) (h : m ≠ n) :
    Calls Try.prog 14 #[.slice a m c, .slice b n d] w fun e w' => e = .returned (.bool false) ∧ w' = w := by
  have h' : ((m : Int) == (n : Int)) = false := by simp; omega
  go_enter Try.func14, Try.ntmps14
  go_wp2
  go_ret
  exact ⟨rfl, rfl⟩
theorem eqWrapS_none (a b : Option Addr) (c d : Nat) (w : World) :
    Calls Try.prog 14 #[.slice a 0 c, .slice b 0 d] w fun e w' => e = .returned (.bool true) ∧ w' = w := by
  go_enter Try.func14, Try.ntmps14
  go_wp2
  refine wp_loop_rounds 1 ?_
  rw [rounds_succ]
  go_wp2
  go_ret
  exact ⟨rfl, rfl⟩

/-- Two wraps lie at k, in block g and in block g'. -/
def Cw (w : World) (g g' k : Nat) (x y : W4) (W : World) : Prop :=
  Cs4 w ⟨g, k * 4, none⟩ (.int .i64 x.1) ⟨g, k * 4 + 1, none⟩ (.int .i64 x.2.1) ⟨g, k * 4 + 2, none⟩ (.int .i64 x.2.2.1) ⟨g, k * 4 + 3, none⟩ (.int .i64 x.2.2.2) W ∧
  Cs4 w ⟨g', k * 4, none⟩ (.int .i64 y.1) ⟨g', k * 4 + 1, none⟩ (.int .i64 y.2.1) ⟨g', k * 4 + 2, none⟩ (.int .i64 y.2.2.1) ⟨g', k * 4 + 3, none⟩ (.int .i64 y.2.2.2) W
theorem Cw.later {w : World} {g g' k : Nat} {x y : W4} {W W' : World} (h : Cw w g g' k x y W) (hb : Below W.heap.size W W') : Cw w g g' k x y W' := ⟨h.1.later hb, h.2.later hb⟩

set_option maxHeartbeats 1000000 in
theorem eqWrapS_row (g g' c d : Nat) (xs ys : List W4) (w : World) (hl : ys.length = xs.length) (hm : xs.length ≤ maxLen) (hg : g < w.heap.size) (hg' : g' < w.heap.size)
    (h1 : WSeg g 0 xs w) (h2 : WSeg g' 0 ys w) :
    Calls Try.prog 14 #[.slice (some ⟨g, 0, none⟩) xs.length c, .slice (some ⟨g', 0, none⟩) xs.length d] w fun e w' => e = .returned (.bool (eqLW xs ys)) ∧ Below w.heap.size w w' := by
  unfold maxLen at hm
  generalize hn : xs.length = n at hm ⊢
  go_enter Try.func14, Try.ntmps14
  go_wp2
  go_loopw [5] (fun i wr => ∃ k : Nat, k ≤ n ∧ i = .int .i64 k ∧ (∀ j (hj : j < xs.length), j < k → xs[j] = ys[j]'(by omega)) ∧ Below w.heap.size w wr) (fun i _ => n - (intOf i).toNat)
  case atStart => exact ⟨0, Nat.zero_le _, rfl, fun _ _ h => absurd h (Nat.not_lt_zero _), Below.refl _ _⟩
  case round =>
    obtain ⟨k, hk, rfl, hpre, hB⟩ := hrel
    have HP : Hid (∀ j (hj : j < xs.length), j < k → xs[j] = ys[j]'(by omega)) := hpre
    have H1 : Hid (WSeg g 0 xs w) := h1
    have H2 : Hid (WSeg g' 0 ys w) := h2
    clear hpre h1 h2
    by_cases hlt : k < n
    · have hlk : k < xs.length := by omega
      have hlk2 : k < ys.length := by omega
      obtain ⟨a1, a2, a3, a4⟩ := H1.out k hlk
      obtain ⟨b1, b2, b3, b4⟩ := H2.out k hlk2
      simp only [Nat.zero_add] at a1 a2 a3 a4 b1 b2 b3 b4
      have hS0 : Cw w g g' k xs[k] ys[k] wr.drew :=
        ⟨⟨(hB.cell (p := ⟨g, k * 4, none⟩) hg).trans a1, (hB.cell (p := ⟨g, k * 4 + 1, none⟩) hg).trans a2, (hB.cell (p := ⟨g, k * 4 + 2, none⟩) hg).trans a3, (hB.cell (p := ⟨g, k * 4 + 3, none⟩) hg).trans a4, hB.drew⟩,
         ⟨(hB.cell (p := ⟨g', k * 4, none⟩) hg').trans b1, (hB.cell (p := ⟨g', k * 4 + 1, none⟩) hg').trans b2, (hB.cell (p := ⟨g', k * 4 + 2, none⟩) hg').trans b3, (hB.cell (p := ⟨g', k * 4 + 3, none⟩) hg').trans b4, hB.drew⟩⟩
      clear a1 a2 a3 a4 b1 b2 b3 b4
      have HSame : Hid (sameW xs[k] ys[k] = true ↔ xs[k] = ys[k]) := sameW_iff _ _
      obtain ⟨x1, x2, x3, x4, hX⟩ : ∃ x1 x2 x3 x4, xs[k] = (x1, x2, x3, x4) := ⟨_, _, _, _, rfl⟩
      obtain ⟨y1, y2, y3, y4, hY⟩ : ∃ x1 x2 x3 x4, ys[k] = (x1, x2, x3, x4) := ⟨_, _, _, _, rfl⟩
      rw [hX, hY] at hS0
      have HX : Hid (xs[k] = (x1, x2, x3, x4)) := hX
      have HY : Hid (ys[k] = (y1, y2, y3, y4)) := hY
      clear hX hY
      have hSN := SW.some hS0
      have s1 := fun s : SW (Cw w g g' k (x1, x2, x3, x4) (y1, y2, y3, y4)) => s.is.1.1
      have s2 := fun s : SW (Cw w g g' k (x1, x2, x3, x4) (y1, y2, y3, y4)) => s.is.1.2.1
      have s3 := fun s : SW (Cw w g g' k (x1, x2, x3, x4) (y1, y2, y3, y4)) => s.is.1.2.2.1
      have s4 := fun s : SW (Cw w g g' k (x1, x2, x3, x4) (y1, y2, y3, y4)) => s.is.1.2.2.2.1
      have s5 := fun s : SW (Cw w g g' k (x1, x2, x3, x4) (y1, y2, y3, y4)) => s.is.2.1
      have s6 := fun s : SW (Cw w g g' k (x1, x2, x3, x4) (y1, y2, y3, y4)) => s.is.2.2.1
      have s7 := fun s : SW (Cw w g g' k (x1, x2, x3, x4) (y1, y2, y3, y4)) => s.is.2.2.2.1
      have s8 := fun s : SW (Cw w g g' k (x1, x2, x3, x4) (y1, y2, y3, y4)) => s.is.2.2.2.2.1
      go_wp2
      refine wp_region_S (Cw w g g' k (x1, x2, x3, x4) (y1, y2, y3, y4)) (by kernel_rfl) (by kernel_rfl) hS0 ?_
      repeat (go_big_quiet_step ((rename_i s0; go_at_call 22; refine (eqWrap_any x1 x2 x3 x4 y1 y2 y3 y4 _).mono ?_; rintro e w' ⟨rfl, hb⟩; exact ⟨rfl, SW.of (s0.is.later hb)⟩)))
      refine wpQuiet_nil ?_
      rintro _ ⟨s, rfl⟩
      have hBf := s.is.1.2.2.2.2
      clear hS0 hSN s1 s2 s3 s4 s5 s6 s7 s8
      cases hs : sameW (x1, x2, x3, x4) (y1, y2, y3, y4) with
      | true =>
        have HXY : Hid (xs[k] = ys[k]) := by
          show xs[k] = ys[k]
          rw [HX.out, HY.out]; exact (sameW_iff _ _).1 hs
        go_wp2
        go_roundw
        case rel =>
          refine ⟨k + 1, by omega, by go_num, fun j hj hjk => ?_, hBf⟩
          by_cases e : j = k
          · subst e; exact HXY.out
          · exact HP.out j hj (by omega)
        case measure => simp [intOf]; omega
      | false =>
        go_wp2
        go_ret
        refine ⟨?_, hBf⟩
        have : eqLW xs ys = false := by
          refine decide_eq_false fun e => ?_
          subst e
          have := (sameW_iff _ _).2 (HX.out.symm.trans HY.out)
          rw [hs] at this
          cases this
        show Ending.returned (.bool false) = _
        rw [this]
    · go_wp2
      go_ret
      refine ⟨?_, hB⟩
      have : eqLW xs ys = true := decide_eq_true (List.ext_getElem hl.symm fun i hi _ => HP.out i hi (by omega))
      show Ending.returned (.bool true) = _
      rw [this]

theorem eqWrapS_any {B C : Nat} {u v : Value} {xs ys : List W4} {w : World} (hx : Wraps B u xs w) (hy : Wraps C v ys w) :
    Calls Try.prog 14 #[u, v] w fun e w' => e = .returned (.bool (eqLW xs ys)) ∧ Below w.heap.size w w' := by
  have fu : ∃ a c, u = .slice a xs.length c := by
    rcases hx.form with ⟨rfl, rfl⟩ | ⟨g, cap, rfl, _⟩ <;> exact ⟨_, _, rfl⟩
  have fv : ∃ a c, v = .slice a ys.length c := by
    rcases hy.form with ⟨rfl, rfl⟩ | ⟨g, cap, rfl, _⟩ <;> exact ⟨_, _, rfl⟩
  by_cases hl : xs.length = ys.length
  · by_cases h0 : xs.length = 0
    · obtain ⟨a, c, rfl⟩ := fu
      obtain ⟨b, d, rfl⟩ := fv
      rw [← hl, h0]
      have ex : xs = [] := List.length_eq_zero_iff.1 h0
      have ey : ys = [] := List.length_eq_zero_iff.1 (by omega)
      have : eqLW xs ys = true := by rw [ex, ey]; rfl
      rw [this]
      exact (eqWrapS_none a b c d w).mono fun _ _ h => ⟨h.1, h.2 ▸ Below.refl _ _⟩
    · rcases hx.form with ⟨_, rfl⟩ | ⟨g, cap, rfl, _, g1, h1, h2, h3, _⟩
      · exact absurd rfl h0
      rcases hy.form with ⟨_, rfl⟩ | ⟨g', cap', rfl, _, g1', k1, k2, k3, _⟩
      · exact absurd hl h0
      have := eqWrapS_row g g' cap cap' xs ys w hl.symm (by omega) g1 g1' h3 k3
      rw [← hl]
      exact this
  · have : eqLW xs ys = false := decide_eq_false fun e => hl (by rw [e])
    rw [this]
    obtain ⟨a, c, rfl⟩ := fu
    obtain ⟨b, d, rfl⟩ := fv
    exact (eqWrapS_len a b _ _ c d w hl).mono fun _ _ h => ⟨h.1, h.2 ▸ Below.refl _ _⟩
end Go.Proofs.Ytojgbcianpglpab
