
/- Contracts of the reader that the drawn laws draw from: each of its methods returns, and turns its own block alone; no condition on the bytes. -/
import Derived.Test.YtojgbcianpglpaaKa
import Derived.Maps.Range
import Derived.Maps.RangeWalk
import Derived.Maps.AppendAt
import Derived.Deep.AppendLies
import Derived.OpenShut
namespace Go.Proofs.Ytojgbcianpglpaa
open Go.RowKit

/-- A reader lies in block R, at or beyond B; its bytes lie below B. -/
def Rd (B R : Nat) (W : World) : Prop :=
  ∃ (a : Option Addr) (len cap p : Nat), p ≤ len ∧ len ≤ maxLen ∧ B ≤ R ∧ W.heap[R]? = some (.cells #[.slice a len cap, .int .i64 p] 53) ∧
    ∀ i, i < len → ∃ b off x, a = some ⟨b, off, none⟩ ∧ b < B ∧ W.cell? ⟨b, off + i, none⟩ = some (.int .u8 x) ∧ 0 ≤ x ∧ x ≤ 255

theorem Rd.lt {B R : Nat} {W : World} (h : Rd B R W) : R < W.heap.size := by
  obtain ⟨a, len, cap, p, _, _, _, h3, _⟩ := h
  exact (Array.getElem?_eq_some_iff.1 h3).1
theorem Rd.le {B R : Nat} {W : World} (h : Rd B R W) : B ≤ R := by
  obtain ⟨a, len, cap, p, _, _, h3, _, _⟩ := h
  exact h3

/-- What turns neither the reader nor its bytes keeps the reader. -/
theorem Rd.kept {B R : Nat} {W W' : World} {row : Option Nat} (h : Rd B R W) (hg : W.grownBy W' row) (hne : ∀ j, row = some j → B ≤ j ∧ j ≠ R) : Rd B R W' := by
  obtain ⟨a, len, cap, p, h1, h2, hB, h3, h4⟩ := h
  refine ⟨a, len, cap, p, h1, h2, hB, ?_, fun i hi => ?_⟩
  · rw [hg.block R (Array.getElem?_eq_some_iff.1 h3).1 (fun e => (hne R e.symm).2 rfl)]; exact h3
  · obtain ⟨b, off, x, e, hb, hc, hx⟩ := h4 i hi
    exact ⟨b, off, x, e, hb, hg.cell hc (fun e => by have := (hne _ e.symm).1; simp at this; omega), hx⟩
theorem Rd.alloc {B R : Nat} {W : World} (h : Rd B R W) (o : Obj) : Rd B R (W.alloc o) := h.kept (World.grownBy_alloc _ _ none) (fun j e => by cases e)
theorem Rd.drewN {B R : Nat} {W : World} (h : Rd B R W) (n : Nat) : Rd B R (W.drewN n) := h

/-- A block that is not the row's stands. -/
theorem blk {W W' : World} {R k : Nat} {o : Obj} (hg : W.grownBy W' (some R)) (h : W.heap[k]? = some o) (hne : k ≠ R) : W'.heap[k]? = some o :=
  (hg.block k (Array.getElem?_eq_some_iff.1 h).1 (by simpa using hne)).trans h
theorem blk_new (W : World) (o : Obj) : (W.alloc o).heap[W.heap.size]? = some o := heap_alloc_new W o
theorem blk_old {W : World} {k : Nat} {o : Obj} (h : W.heap[k]? = some o) (o' : Obj) : (W.alloc o').heap[k]? = some o :=
  (Below.heap_alloc W o' k (Array.getElem?_eq_some_iff.1 h).1).trans h
theorem blk_lt {W : World} {k : Nat} {o : Obj} (h : W.heap[k]? = some o) : k < W.heap.size := (Array.getElem?_eq_some_iff.1 h).1

theorem grown_below {W W' : World} (h : Below W.heap.size W W') : W.grownBy W' none := ⟨h.os, h.tape, h.output, h.size, fun k hk _ => h.block k hk⟩
theorem below_grown {W W' : World} (h : W.grownBy W' none) : Below W.heap.size W W' := ⟨h.os, h.tape, h.output, h.size, fun k hk => h.block k hk (by simp)⟩
theorem grown_drewN (W : World) (n : Nat) (row : Option Nat) : W.grownBy (W.drewN n) row := ⟨rfl, rfl, rfl, Nat.le_refl _, fun _ _ _ => rfl⟩
theorem grown_drew (W : World) (row : Option Nat) : W.grownBy W.drew row := ⟨rfl, rfl, rfl, Nat.le_refl _, fun _ _ _ => rfl⟩
theorem grown_setCell (W : World) (b o : Nat) (v : Value) : W.grownBy (W.setCell ⟨b, o, none⟩ v) (some b) :=
  ⟨rfl, rfl, rfl, by simp [World.setCell], fun k _ hne => Below.heap_setCell _ _ _ _ (fun e => hne (by rw [e]))⟩

theorem l1Open_any (a : Option Addr) (len cap : Nat) (W : World) :
    Calls Try.prog 26 #[.slice a len cap] W fun e W' => e = .returned (.pointer (some ⟨W.heap.size, 0, none⟩)) ∧ W' = W.alloc (.cells #[.slice a len cap, .int .i64 0] 53) := by
  go_enter Try.func26, Try.ntmps26
  go_wp2
  go_ret
  exact ⟨rfl, rfl⟩

theorem rd_cells {R : Nat} {W : World} {u v : Value} {t : TypeId} (h : W.heap[R]? = some (.cells #[u, v] t)) :
    W.cell? ⟨R, 0, none⟩ = some u ∧ W.cell? ⟨R, 1, none⟩ = some v ∧ W.frozen? ⟨R, 0, none⟩ = false ∧ W.frozen? ⟨R, 1, none⟩ = false := by
  simp [World.cell?, World.frozen?, h]
theorem rd_set {R : Nat} {W : World} {u v v' : Value} {t : TypeId} (h : W.heap[R]? = some (.cells #[u, v] t)) :
    (W.setCell ⟨R, 1, none⟩ v').heap[R]? = some (.cells #[u, v'] t) := by
  simp [World.setCell, Array.getElem?_modify, h]

theorem put2 {R : Nat} {W : World} {u v : Value} {t : TypeId} (h : W.heap[R]? = some (.cells #[u, v] t)) (u' v' : Value) :
    ((W.setCell ⟨R, 0, none⟩ u').setCell ⟨R, 1, none⟩ v').heap[R]? = some (.cells #[u', v'] t) := by
  simp [World.setCell, Array.getElem?_modify, h]
theorem grown_put2 (W : World) (R : Nat) (u' v' : Value) : W.grownBy ((W.setCell ⟨R, 0, none⟩ u').setCell ⟨R, 1, none⟩ v') (some R) := (grown_setCell _ _ _ _).trans (grown_setCell _ _ _ _)

set_option maxHeartbeats 400000 in
theorem next_any (B R : Nat) (W : World) (h : Rd B R W) :
    Calls Try.prog 40 #[.pointer (some ⟨R, 0, none⟩)] W fun e W' => ∃ x : Int, 0 ≤ x ∧ x ≤ 255 ∧ e = .returned (.int .i64 x) ∧ Rd B R W' ∧ W.grownBy W' (some R) := by
  obtain ⟨a, len, cap, p, h1, h2, hB, h3, h4⟩ := h
  obtain ⟨c0, c1, f0, f1⟩ := rd_cells h3
  unfold maxLen at h2
  by_cases hp : p < len
  · obtain ⟨b, off, x, rfl, hb, hc, hx0, hx1⟩ := h4 p hp
    go_enter Try.func40, Try.ntmps40
    go_wp2
    go_quiet (fail)
    go_wp2
    have k3 : ((W.drewN nq).setCell ⟨R, 1, none⟩ (.int .i64 ((p : Int) + 1))).heap[R]? = some (.cells #[.slice (some ⟨b, off, none⟩) len cap, .int .i64 ((p : Int) + 1)] 53) := rd_set (W := W.drewN nq) h3
    have g1 : W.grownBy ((W.drewN nq).setCell ⟨R, 1, none⟩ (.int .i64 ((p : Int) + 1))) (some R) := (grown_drewN W nq _).trans (grown_setCell _ _ _ _)
    generalize (W.drewN nq).setCell ⟨R, 1, none⟩ (.int .i64 ((p : Int) + 1)) = W1 at k3 g1 ⊢
    clear c0 c1 f0 f1
    obtain ⟨c0, c1, f0, f1⟩ := rd_cells k3
    have hc1 : W1.cell? ⟨b, off + p, none⟩ = some (.int .u8 x) := g1.cell hc (by simp; omega)
    clear hc
    go_quiet (fail)
    go_wp2
    go_ret
    refine ⟨x, hx0, hx1, rfl, ⟨_, len, cap, p + 1, by omega, by unfold maxLen; omega, hB, by simpa using k3, fun i hi => ?_⟩, g1.trans (grown_drewN W1 nq _)⟩
    obtain ⟨b', off', y, e, hb', hc', hy⟩ := h4 i hi
    exact ⟨b', off', y, e, hb', g1.cell hc' (by simp; omega), hy⟩
  · go_enter Try.func40, Try.ntmps40
    go_wp2
    go_quiet (fail)
    go_wp2
    go_ret
    exact ⟨0, by omega, by omega, rfl, ⟨a, len, cap, p, h1, by unfold maxLen; omega, hB, h3, h4⟩, grown_drewN W nq _⟩

theorem below_any (B R : Nat) (n : Int) (W : World) (h : Rd B R W) (h1 : 1 ≤ n) (h2 : n ≤ 65536) :
    Calls Try.prog 36 #[.pointer (some ⟨R, 0, none⟩), .int .i64 n] W fun e W' => ∃ x : Int, 0 ≤ x ∧ x < n ∧ e = .returned (.int .i64 x) ∧ Rd B R W' ∧ W.grownBy W' (some R) := by
  by_cases e1 : n ≤ 1
  · go_enter Try.func36, Try.ntmps36
    go_wp2
    go_ret
    exact ⟨0, by omega, by omega, rfl, h, World.grownBy.refl _ _⟩
  · by_cases e2 : n ≤ 256
    · go_enter Try.func36, Try.ntmps36
      go_wp2_with (go_at_call 40; refine (next_any B R _ h).mono ?_; rintro e w' ⟨x, hx0, hx1, rfl, hR, hg⟩)
      go_ret
      exact ⟨x % n, Int.emod_nonneg _ (by omega), Int.emod_lt_of_pos _ (by omega), rfl, hR, hg⟩
    · go_enter Try.func36, Try.ntmps36
      go_wp2_with fail
      refine (next_any B R _ h).mono ?_
      rintro e w1 ⟨x, hx0, hx1, rfl, hR, hg⟩
      go_wp2_with fail
      refine (next_any B R _ hR).mono ?_
      rintro e w2 ⟨y, hy0, hy1, rfl, hR2, hg2⟩
      go_wp2
      go_ret
      exact ⟨(x * 256 + y) % n, Int.emod_nonneg _ (by omega), Int.emod_lt_of_pos _ (by omega), rfl, hR2, hg.trans hg2⟩

theorem once_any (B R : Nat) (n : Int) (W : World) (h : Rd B R W) (h1 : 1 ≤ n) (h2 : n ≤ 65536) :
    Calls Try.prog 35 #[.pointer (some ⟨R, 0, none⟩), .int .i64 n] W fun e W' => ∃ x : Bool, e = .returned (.bool x) ∧ Rd B R W' ∧ W.grownBy W' (some R) := by
  go_enter Try.func35, Try.ntmps35
  go_wp2_with (go_at_call 36; refine (below_any B R _ _ h h1 h2).mono ?_; rintro e w' ⟨x, hx0, hx1, rfl, hR, hg⟩)
  go_ret
  exact ⟨_, rfl, hR, hg⟩

set_option maxHeartbeats 400000 in
theorem word_any (B R : Nat) (W : World) (h : Rd B R W) :
    Calls Try.prog 41 #[.pointer (some ⟨R, 0, none⟩)] W fun e W' => ∃ x : Int, 0 ≤ x ∧ x < 18446744073709551616 ∧ e = .returned (.int .u64 x) ∧ Rd B R W' ∧ W.grownBy W' (some R) := by
  go_enter Try.func41, Try.ntmps41
  go_wp2
  go_loopw [3, 4] (fun t i wr => ∃ (k : Nat) (x : Int), k ≤ 8 ∧ i = .int .i64 k ∧ t = .int .u64 x ∧ 0 ≤ x ∧ x < 18446744073709551616 ∧ Rd B R wr ∧ W.grownBy wr (some R)) (fun _ i _ => 8 - (intOf i).toNat)
  case atStart => exact ⟨0, 0, by omega, rfl, rfl, by omega, by omega, h, World.grownBy.refl _ _⟩
  case round =>
    obtain ⟨k, x, hk, rfl, rfl, hx0, hx1, hR, hg⟩ := hrel
    by_cases hlt : k < 8
    · go_wp2_with (go_at_call 40; refine (next_any B R _ hR).mono ?_; rintro e w' ⟨y, hy0, hy1, rfl, hR', hg'⟩)
      go_roundw
      case rel => exact ⟨k + 1, _, by omega, by go_num, rfl, (bounds_u64 (wf_bits _ _ _ _)).1, by have := (bounds_u64 (wf_bits .or .u64 (IntKind.u64.wrap (x * 256)) y)).2; omega, hR', hg.trans hg'⟩
      case measure => simp [intOf]; omega
    · go_wp2
      go_ret
      exact ⟨x, hx0, hx1, rfl, hR, hg⟩

set_option maxHeartbeats 400000 in
theorem near_any (B R : Nat) (lo hi : Int) (W : World) (h : Rd B R W) (h0 : -1000000000000 ≤ lo) (h1 : lo ≤ hi) (h2 : hi ≤ 1000000000000) :
    Calls Try.prog 37 #[.pointer (some ⟨R, 0, none⟩), .int .i64 lo, .int .i64 hi] W fun e W' => ∃ x : Int, lo ≤ x ∧ x ≤ hi ∧ e = .returned (.int .i64 x) ∧ Rd B R W' ∧ W.grownBy W' (some R) := by
  go_enter Try.func37, Try.ntmps37
  go_wp2_with fail
  refine (below_any B R _ _ h (by omega) (by omega)).mono ?_
  rintro e w1 ⟨x, hx0, hx1, rfl, hR, hg⟩
  by_cases e0 : x = 0
  · subst e0
    go_wp2
    go_ret
    exact ⟨lo, by omega, by omega, rfl, hR, hg⟩
  · by_cases e1 : x = 1
    · subst e1
      go_wp2
      go_ret
      exact ⟨hi, by omega, by omega, rfl, hR, hg⟩
    · have e0' : (x == 0) = false := by simpa using e0
      have e1' : (x == 1) = false := by simpa using e1
      have e2 : ¬ hi < lo := by omega
      go_wp2_with fail
      refine (word_any B R _ hR).mono ?_
      rintro e w2 ⟨y, hy0, hy1, rfl, hR2, hg2⟩
      go_wp2
      go_ret
      have q0 := Int.emod_nonneg (y / 2) (show hi - lo + 1 ≠ 0 by omega)
      have q1 := Int.emod_lt_of_pos (y / 2) (show 0 < hi - lo + 1 by omega)
      refine ⟨lo + y / 2 % (hi - lo + 1), by omega, by omega, ?_, hR2, hg.trans hg2⟩
      show Ending.returned (.int .i64 (wrap64 (lo + wrap64 (y / 2 % (hi - lo + 1))))) = _
      rw [IntWalk.wrap64_in (y / 2 % (hi - lo + 1)) ⟨by omega, by omega⟩, IntWalk.wrap64_in (lo + y / 2 % (hi - lo + 1)) ⟨by omega, by omega⟩]

theorem cell_lit4 (W : World) (t : TypeId) (a b c d : Value) (x : Int) (h0 : 0 ≤ x) (h1 : x < 4) : ∃ v, (v = a ∨ v = b ∨ v = c ∨ v = d) ∧ (W.alloc (.cells #[a, b, c, d] t)).cell? ⟨W.heap.size, x.toNat, none⟩ = some v := by
  have : x = 0 ∨ x = 1 ∨ x = 2 ∨ x = 3 := by omega
  rcases this with rfl | rfl | rfl | rfl
  · exact ⟨a, by simp, by simp⟩
  · exact ⟨b, by simp, by simp⟩
  · exact ⟨c, by simp, by simp⟩
  · exact ⟨d, by simp, by simp⟩

set_option maxHeartbeats 400000 in
theorem off_any (B R : Nat) (lo hi : Int) (W : World) (h : Rd B R W) (h0 : -1000000000000 ≤ lo) (h1 : lo ≤ hi) (h2 : hi ≤ 1000000000000) :
    Calls Try.prog 27 #[.pointer (some ⟨R, 0, none⟩), .int .i64 lo, .int .i64 hi] W fun e W' => ∃ x : Int, (Lit.int .i64 x).wf = true ∧ e = .returned (.int .i64 x) ∧ Rd B R W' ∧ W.grownBy W' (some R) := by
  go_enter Try.func27, Try.ntmps27
  go_wp2_with fail
  refine (once_any B R _ _ h (by omega) (by omega)).mono ?_
  rintro e w1 ⟨x, rfl, hR, hg⟩
  cases x with
  | false =>
    go_wp2_with fail
    refine (near_any B R _ _ _ hR h0 h1 h2).mono ?_
    rintro e w2 ⟨y, hy0, hy1, rfl, hR2, hg2⟩
    go_wp2
    go_ret
    exact ⟨y, WalkArith.wf_i64 (by omega), rfl, hR2, hg.trans hg2⟩
  | true =>
    go_wp2_with fail
    refine (below_any B R _ _ (hR.alloc _) (by omega) (by omega)).mono ?_
    rintro e w2 ⟨y, hy0, hy1, rfl, hR2, hg2⟩
    have hlt := hR.lt
    obtain ⟨v, hv, hc⟩ := cell_lit4 w1 2 (.int .i64 (lo - 1)) (.int .i64 (hi + 1)) (.int .i64 (-9223372036854775808)) (.int .i64 9223372036854775807) y hy0 hy1
    have hc2 := hg2.cell hc (by simp; omega)
    obtain ⟨z, rfl, hz⟩ : ∃ z, v = .int .i64 z ∧ (Lit.int .i64 z).wf = true := by
      rcases hv with rfl | rfl | rfl | rfl
      · exact ⟨_, rfl, WalkArith.wf_i64 (by omega)⟩
      · exact ⟨_, rfl, WalkArith.wf_i64 (by omega)⟩
      · exact ⟨_, rfl, by decide⟩
      · exact ⟨_, rfl, by decide⟩
    clear hv hc
    go_wp2
    go_ret
    exact ⟨z, hz, rfl, hR2, (hg.trans (World.grownBy_alloc _ _ _)).trans hg2⟩

set_option maxHeartbeats 400000 in
theorem key_any (B R : Nat) (W : World) (h : Rd B R W) :
    Calls Try.prog 33 #[.pointer (some ⟨R, 0, none⟩)] W fun e W' => ∃ n v : Int, 1 ≤ n ∧ n ≤ 4 ∧ (Lit.int .i64 v).wf = true ∧ e = .returned (kv n v) ∧ Rd B R W' ∧ W.grownBy W' (some R) := by
  have hlt := h.lt
  go_enter Try.func33, Try.ntmps33
  go_wp2_with fail
  refine (below_any B R _ _ (h.alloc _) (by omega) (by omega)).mono ?_
  rintro e w1 ⟨x, hx0, hx1, rfl, hR1, hg1⟩
  go_wp2_with fail
  refine (below_any B R _ _ hR1 (by omega) (by omega)).mono ?_
  rintro e w2 ⟨y, hy0, hy1, rfl, hR2, hg2⟩
  have hlt2 := hR2.lt
  have hs1 := hg1.size
  have hs2 := hg2.size
  simp at hs1
  have bN := blk hg2 (blk hg1 (blk_new W (kb 0 0)) (by omega)) (by omega)
  go_wp2_with fail
  refine (once_any B R _ _ (hR2.alloc _) (by omega) (by omega)).mono ?_
  rintro e w3 ⟨x3, rfl, hR3, hg3⟩
  have bN3 := blk hg3 (blk_old bN (kb (1 + x) (1 + y))) (by omega)
  have bK3 := blk hg3 (blk_new w2 (kb (1 + x) (1 + y))) (by omega)
  have hgg : W.grownBy w3 (some R) := ((((World.grownBy_alloc _ _ _).trans hg1).trans hg2).trans (World.grownBy_alloc _ _ _)).trans hg3
  have hs3 := hg3.size
  simp at hs3
  cases x3 with
  | false =>
    obtain ⟨c0, c1, f0, f1⟩ := rd_cells bN3
    obtain ⟨d0, d1, e0, e1⟩ := rd_cells bK3
    go_wp2
    have bF := put2 bN3 (.int .i64 (1 + x)) (.int .i64 (1 + y))
    have gF := grown_put2 w3 W.heap.size (.int .i64 (1 + x)) (.int .i64 (1 + y))
    generalize (w3.setCell ⟨W.heap.size, 0, none⟩ (.int .i64 (1 + x))).setCell ⟨W.heap.size, 1, none⟩ (.int .i64 (1 + y)) = WF at bF gF ⊢
    obtain ⟨p0, p1, _, _⟩ := rd_cells bF
    exact bodyPost_ret (v := kv (1 + x) (1 + y)) (by simp [results, Try.results33, go_sem, p0, p1]) rfl
      ⟨1 + x, 1 + y, by omega, by omega, WalkArith.wf_i64 (by omega), rfl, hR3.kept gF (fun j e => by cases e; have := h.le; omega), hgg.andThen gF (fun j e => by cases e; exact .inl (Nat.le_refl _))⟩
  | true =>
    go_wp2_with fail
    refine (off_any B R _ _ _ hR3 (by omega) (by omega) (by omega)).mono ?_
    rintro e w4 ⟨z, hz, rfl, hR4, hg4⟩
    have bN4 := blk hg4 bN3 (by omega)
    have bK4 := blk hg4 bK3 (by omega)
    obtain ⟨c0, c1, f0, f1⟩ := rd_cells bN4
    obtain ⟨d0, d1, e0, e1⟩ := rd_cells bK4
    go_wp2
    have gE := grown_setCell w4 w2.heap.size 1 (.int .i64 z)
    have bN5 := blk gE bN4 (by omega)
    have gR := hR4.kept gE (fun j e => by cases e; have := h.le; omega)
    generalize w4.setCell ⟨w2.heap.size, 1, none⟩ (.int .i64 z) = WE at bN5 gE gR ⊢
    have bF := put2 bN5 (.int .i64 (1 + x)) (.int .i64 z)
    have gF := grown_put2 WE W.heap.size (.int .i64 (1 + x)) (.int .i64 z)
    generalize (WE.setCell ⟨W.heap.size, 0, none⟩ (.int .i64 (1 + x))).setCell ⟨W.heap.size, 1, none⟩ (.int .i64 z) = WF at bF gF ⊢
    obtain ⟨p0, p1, _, _⟩ := rd_cells bF
    exact bodyPost_ret (v := kv (1 + x) z) (by simp [results, Try.results33, go_sem, p0, p1]) rfl
      ⟨1 + x, z, by omega, by omega, hz, rfl, gR.kept gF (fun j e => by cases e; have := h.le; omega), (((hgg.trans hg4).andThen gE (fun j e => by cases e; exact .inl (by omega))).andThen gF (fun j e => by cases e; exact .inl (Nat.le_refl _)))⟩
end Go.Proofs.Ytojgbcianpglpaa
