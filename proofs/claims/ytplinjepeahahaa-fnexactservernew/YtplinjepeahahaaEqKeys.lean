
/- What the laws' comparison of two lists of keys does. -/
import Derived.Test.YtplinjepeahahaaToKb
namespace Go.Proofs.Ytplinjepeahahaa
open Go.RowKit

def sameK (a0 a1 b0 b1 : Int) : Bool := decide (a0 = b0 ∧ a1 = b1)
theorem eqKey_any (a0 a1 b0 b1 : Int) (w : World) :
    Calls Try.prog 20 #[kv a0 a1, kv b0 b1] w fun e w' => e = .returned (.bool (sameK a0 a1 b0 b1)) ∧ w' = (w.alloc (kb a0 a1)).alloc (kb b0 b1) := by
  by_cases h : a0 = b0
  · have h' : (a0 == b0) = true := by simpa using h
    by_cases h1 : a1 = b1
    · have h1' : (a1 == b1) = true := by simpa using h1
      have hr : sameK a0 a1 b0 b1 = true := decide_eq_true ⟨h, h1⟩
      rw [hr]
      subst h h1
      go_enter Try.func20, Try.ntmps20
      go_wp2
      go_ret
      exact ⟨rfl, rfl⟩
    · have h1' : (a1 == b1) = false := by simpa using h1
      have hr : sameK a0 a1 b0 b1 = false := decide_eq_false fun e => h1 e.2
      rw [hr]
      subst h
      go_enter Try.func20, Try.ntmps20
      go_wp2
      go_ret
      exact ⟨rfl, rfl⟩
  · have h' : (a0 == b0) = false := by simpa using h
    have hr : sameK a0 a1 b0 b1 = false := decide_eq_false fun e => h e.1
    rw [hr]
    go_enter Try.func20, Try.ntmps20
    go_wp2
    go_ret
    exact ⟨rfl, rfl⟩
theorem two_below (w : World) (o o' : Obj) : Below w.heap.size w ((w.alloc o).alloc o') := ((Below.refl _ _).alloc (Nat.le_refl _) o).alloc (by simp) o'

theorem eqKey_below (a0 a1 b0 b1 : Int) (w : World) :
    Calls Try.prog 20 #[kv a0 a1, kv b0 b1] w fun e w' => e = .returned (.bool (sameK a0 a1 b0 b1)) ∧ Below w.heap.size w w' :=
  (eqKey_any a0 a1 b0 b1 w).mono fun _ _ h => ⟨h.1, h.2 ▸ two_below _ _ _⟩

def eqL (xs ys : List (Int × Int)) : Bool := decide (xs = ys)
theorem eqL_len {xs ys : List (Int × Int)} (h : xs.length ≠ ys.length) : eqL xs ys = false := decide_eq_false fun e => h (by rw [e])
theorem eqKeyS_len (a b : Option Addr) (m n c d : Nat) (w : World) (h : m ≠ n) :
    Calls Try.prog 23 #[.slice a m c, .slice b n d] w fun e w' => e = .returned (.bool false) ∧ w' = w := by
  have h' : ((m : Int) == (n : Int)) = false := by simp; omega
  go_enter Try.func23, Try.ntmps23
  go_wp2
  go_ret
  exact ⟨rfl, rfl⟩

theorem eqKeyS_none (a b : Option Addr) (c d : Nat) (w : World) :
    Calls Try.prog 23 #[.slice a 0 c, .slice b 0 d] w fun e w' => e = .returned (.bool true) ∧ w' = w := by
  go_enter Try.func23, Try.ntmps23
  go_wp2
  refine wp_loop_rounds 1 ?_
  rw [rounds_succ]
  go_wp2
  go_ret
  exact ⟨rfl, rfl⟩

set_option maxHeartbeats 1000000 in
theorem eqKeyS_row (g g' c d : Nat) (xs ys : List (Int × Int)) (w : World) (hl : ys.length = xs.length) (hm : xs.length ≤ maxLen) (hg : g < w.heap.size) (hg' : g' < w.heap.size)
    (h1 : KSeg g 0 xs w) (h2 : KSeg g' 0 ys w) :
    Calls Try.prog 23 #[.slice (some ⟨g, 0, none⟩) xs.length c, .slice (some ⟨g', 0, none⟩) xs.length d] w fun e w' => e = .returned (.bool (eqL xs ys)) ∧ Below w.heap.size w w' := by
  unfold maxLen at hm
  generalize hn : xs.length = n at hm ⊢
  go_enter Try.func23, Try.ntmps23
  go_wp2
  go_loopw [5] (fun i wr => ∃ k : Nat, k ≤ n ∧ i = .int .i64 k ∧ (∀ j (hj : j < xs.length), j < k → xs[j] = ys[j]'(by omega)) ∧ Below w.heap.size w wr) (fun i _ => n - (intOf i).toNat)
  case atStart => exact ⟨0, Nat.zero_le _, rfl, fun _ _ h => absurd h (Nat.not_lt_zero _), Below.refl _ _⟩
  case round =>
    obtain ⟨k, hk, rfl, hpre, hB⟩ := hrel
    have HP : Hid (∀ j (hj : j < xs.length), j < k → xs[j] = ys[j]'(by omega)) := hpre
    have H1 : Hid (KSeg g 0 xs w) := h1
    have H2 : Hid (KSeg g' 0 ys w) := h2
    clear hpre h1 h2
    by_cases hlt : k < n
    · have hlk : k < xs.length := by omega
      have hlk2 : k < ys.length := by omega
      obtain ⟨a1, a2⟩ := H1.out k hlk
      obtain ⟨b1, b2⟩ := H2.out k hlk2
      simp only [Nat.zero_add] at a1 a2 b1 b2
      have c1 : wr.cell? ⟨g, k * 2, none⟩ = some (.int .i64 xs[k].1) := (hB.cell (p := ⟨g, k * 2, none⟩) hg).trans a1
      have c2 : wr.cell? ⟨g, k * 2 + 1, none⟩ = some (.int .i64 xs[k].2) := (hB.cell (p := ⟨g, k * 2 + 1, none⟩) hg).trans a2
      have d1 : wr.cell? ⟨g', k * 2, none⟩ = some (.int .i64 ys[k].1) := (hB.cell (p := ⟨g', k * 2, none⟩) hg').trans b1
      have d2 : wr.cell? ⟨g', k * 2 + 1, none⟩ = some (.int .i64 ys[k].2) := (hB.cell (p := ⟨g', k * 2 + 1, none⟩) hg').trans b2
      have hsz := hB.size
      clear a1 a2 b1 b2
      generalize hx1 : xs[k].1 = x1 at c1
      generalize hx2 : xs[k].2 = x2 at c2
      generalize hy1 : ys[k].1 = y1 at d1
      generalize hy2 : ys[k].2 = y2 at d2
      have HX : Hid (xs[k] = (x1, x2)) := Prod.ext hx1 hx2
      have HY : Hid (ys[k] = (y1, y2)) := Prod.ext hy1 hy2
      clear hx1 hx2 hy1 hy2
      go_wp2
      go_region_held3 (fun W => W.cell? ⟨g, k * 2, none⟩ = some (.int .i64 x1) ∧ W.cell? ⟨g, k * 2 + 1, none⟩ = some (.int .i64 x2) ∧ W.cell? ⟨g', k * 2, none⟩ = some (.int .i64 y1) ∧ W.cell? ⟨g', k * 2 + 1, none⟩ = some (.int .i64 y2) ∧ Below w.heap.size w W)
        (first | exact ⟨c1, c2, d1, d2, hB.drew⟩ | exact later4 ‹_› hb)
        (first | (go_at_call 20; refine (eqKey_below x1 x2 y1 y2 _).mono ?_; rintro e w' ⟨rfl, hb⟩))
      have hS : w'.cell? ⟨g, k * 2, none⟩ = some (.int .i64 x1) ∧ w'.cell? ⟨g, k * 2 + 1, none⟩ = some (.int .i64 x2) ∧ w'.cell? ⟨g', k * 2, none⟩ = some (.int .i64 y1) ∧ w'.cell? ⟨g', k * 2 + 1, none⟩ = some (.int .i64 y2) ∧ Below w.heap.size w w' := by assumption
      have hBf := hS.2.2.2.2
      clear c1 c2 d1 d2 hS
      cases hs : sameK x1 x2 y1 y2 with
      | true =>
        have hxy : x1 = y1 ∧ x2 = y2 := of_decide_eq_true hs
        have HXY : Hid (xs[k] = ys[k]) := by
          show xs[k] = ys[k]
          rw [HX.out, HY.out, hxy.1, hxy.2]
        clear hxy
        go_wp2
        go_roundw
        case rel =>
          refine ⟨k + 1, by omega, by go_num, fun j hj hjk => ?_, hBf⟩
          by_cases e : j = k
          · subst e; exact HXY.out
          · exact HP.out j hj (by omega)
        case measure => simp [intOf]; omega
      | false =>
        go_wp2
        go_ret
        refine ⟨?_, hBf⟩
        have : eqL xs ys = false := by
          refine decide_eq_false fun e => ?_
          subst e
          have := HX.out.symm.trans HY.out
          simp only [Prod.mk.injEq] at this
          simp [sameK, this] at hs
        show Ending.returned (.bool false) = _
        rw [this]
    · go_wp2
      go_ret
      refine ⟨?_, hB⟩
      have : eqL xs ys = true := decide_eq_true (List.ext_getElem hl.symm fun i hi _ => HP.out i hi (by omega))
      show Ending.returned (.bool true) = _
      rw [this]

theorem eqKeyS_any {B C : Nat} {u v : Value} {xs ys : List (Int × Int)} {w : World} (hx : Keys B u xs w) (hy : Keys C v ys w) :
    Calls Try.prog 23 #[u, v] w fun e w' => e = .returned (.bool (eqL xs ys)) ∧ Below w.heap.size w w' := by
  have fu : ∃ a c, u = .slice a xs.length c := by
    rcases hx.form with ⟨rfl, rfl⟩ | ⟨g, cap, rfl, _⟩ <;> exact ⟨_, _, rfl⟩
  have fv : ∃ a c, v = .slice a ys.length c := by
    rcases hy.form with ⟨rfl, rfl⟩ | ⟨g, cap, rfl, _⟩ <;> exact ⟨_, _, rfl⟩
  by_cases hl : xs.length = ys.length
  · by_cases h0 : xs.length = 0
    · obtain ⟨a, c, rfl⟩ := fu
      obtain ⟨b, d, rfl⟩ := fv
      rw [← hl, h0]
      have ex : xs = [] := List.length_eq_zero_iff.1 h0
      have ey : ys = [] := List.length_eq_zero_iff.1 (by omega)
      have : eqL xs ys = true := by rw [ex, ey]; rfl
      rw [this]
      exact (eqKeyS_none a b c d w).mono fun _ _ h => ⟨h.1, h.2 ▸ Below.refl _ _⟩
    · rcases hx.form with ⟨_, rfl⟩ | ⟨g, cap, rfl, _, g1, h1, h2, h3, _⟩
      · exact absurd rfl h0
      rcases hy.form with ⟨_, rfl⟩ | ⟨g', cap', rfl, _, g1', k1, k2, k3, _⟩
      · exact absurd hl h0
      have := eqKeyS_row g g' cap cap' xs ys w hl.symm (by omega) g1 g1' h3 k3
      rw [← hl]
      exact this
  · rw [eqL_len hl]
    obtain ⟨a, c, rfl⟩ := fu
    obtain ⟨b, d, rfl⟩ := fv
    exact (eqKeyS_len a b _ _ c d w hl).mono fun _ _ h => ⟨h.1, h.2 ▸ Below.refl _ _⟩
end Go.Proofs.Ytplinjepeahahaa
