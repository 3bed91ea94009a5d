/- Contracts of the functions on single keys (cmp.Compare at int64, compareKeys, KeyAhead of the program and of the model), with no condition. -/
import Derived.Test.YtjilbfohfgalkaaRows
import Derived.WalkKit
import Derived.WalkSpells
import Derived.WalkLawsBesides
import Derived.Deep.QuietTactic
import Derived.BigQuiet
import Derived.Maps.Range
import Derived.Maps.RangeWalk
import Derived.Maps.AppendAt
import Derived.Deep.AppendLies
import Derived.OpenShut
import Derived.Deep.RegionHeld3
import Derived.Below
namespace Go.Proofs.Ytjilbfohfgalkaa
open Go.RowKit

/-- Behind a call that makes memory alone: all old cells, all old marks read as before. -/
theorem bcell {W w1 : World} (hb : Below W.heap.size W w1) : (∀ b o, b < W.heap.size → w1.cell? ⟨b, o, none⟩ = W.cell? ⟨b, o, none⟩) ∧ (∀ b o, b < W.heap.size → w1.frozen? ⟨b, o, none⟩ = W.frozen? ⟨b, o, none⟩) :=
  ⟨fun b o h => hb.cell (p := ⟨b, o, none⟩) h, fun b o h => hb.frozen (p := ⟨b, o, none⟩) h⟩

def cmpI (x y : Int) : Int := if x < y then -1 else if y < x then 1 else 0
theorem cmpI_lt {x y : Int} (h : x < y) : cmpI x y = -1 := by simp [cmpI, h]
theorem cmpI_gt {x y : Int} (h : y < x) : cmpI x y = 1 := by unfold cmpI; rw [if_neg (by omega), if_pos h]
theorem cmpI_eq {x y : Int} (h : x = y) : cmpI x y = 0 := by unfold cmpI; rw [if_neg (by omega), if_neg (by omega)]

theorem isNaN_any (x : Int) (w : World) :
    Calls Try.prog 95 #[.int .i64 x] w fun e w' => e = .returned (.bool false) ∧ w' = w := by
  go_enter Try.func95, Try.ntmps95
  go_wp2
  go_ret
  exact ⟨by simp, rfl⟩

theorem compare_any (x y : Int) (w : World) :
    Calls Try.prog 90 #[.int .i64 x, .int .i64 y] w fun e w' => e = .returned (.int .i64 (cmpI x y)) ∧ w' = w := by
  by_cases h1 : x < y
  · rw [cmpI_lt h1]
    go_enter Try.func90, Try.ntmps90
    go_wp2_with (go_at_call 95; refine (isNaN_any _ _).mono ?_; rintro e w' ⟨rfl, rfl⟩)
    go_ret
    exact ⟨rfl, rfl⟩
  · by_cases h2 : y < x
    · rw [cmpI_gt h2]
      go_enter Try.func90, Try.ntmps90
      go_wp2_with (go_at_call 95; refine (isNaN_any _ _).mono ?_; rintro e w' ⟨rfl, rfl⟩)
      go_ret
      exact ⟨rfl, rfl⟩
    · rw [cmpI_eq (by omega)]
      go_enter Try.func90, Try.ntmps90
      go_wp2_with (go_at_call 95; refine (isNaN_any _ _).mono ?_; rintro e w' ⟨rfl, rfl⟩)
      go_ret
      exact ⟨rfl, rfl⟩

/-- A key as a value. -/
abbrev kv (n v : Int) : Value := .agg #[.int .i64 n, .int .i64 v]
abbrev kb (n v : Int) : Obj := .cells #[.int .i64 n, .int .i64 v] 36
def cmpK (a0 a1 b0 b1 : Int) : Int := if a0 = b0 then cmpI a1 b1 else cmpI a0 b0
def aheadB (a0 a1 b0 b1 : Int) : Bool := decide (a0 < b0 ∨ a0 = b0 ∧ a1 < b1)
theorem cmpK_neg (a0 a1 b0 b1 : Int) : decide (cmpK a0 a1 b0 b1 < 0) = aheadB a0 a1 b0 b1 := by
  unfold cmpK aheadB cmpI
  rw [decide_eq_decide]
  by_cases h : a0 = b0
  · rw [if_pos h]
    by_cases h1 : a1 < b1
    · rw [if_pos h1]; omega
    · rw [if_neg h1]
      by_cases h2 : b1 < a1
      · rw [if_pos h2]; omega
      · rw [if_neg h2]; omega
  · rw [if_neg h]
    by_cases h1 : a0 < b0
    · rw [if_pos h1]; omega
    · rw [if_neg h1]
      by_cases h2 : b0 < a0
      · rw [if_pos h2]; omega
      · rw [if_neg h2]; omega

theorem compareKeys_any (a0 a1 b0 b1 : Int) (w : World) :
    Calls Try.prog 77 #[kv a0 a1, kv b0 b1] w fun e w' => e = .returned (.int .i64 (cmpK a0 a1 b0 b1)) ∧ w' = (w.alloc (kb a0 a1)).alloc (kb b0 b1) := by
  by_cases h : a0 = b0
  · have h' : (a0 == b0) = true := by simpa using h
    have hk : cmpK a0 a1 b0 b1 = cmpI a1 b1 := by unfold cmpK; rw [if_pos h]
    rw [hk]; clear hk
    subst h
    go_enter Try.func77, Try.ntmps77
    go_wp2_with (go_at_call 90; refine (compare_any _ _ _).mono ?_; rintro e w' ⟨rfl, rfl⟩)
    go_ret
    exact ⟨rfl, rfl⟩
  · have h' : (a0 == b0) = false := by simpa using h
    have hk : cmpK a0 a1 b0 b1 = cmpI a0 b0 := by unfold cmpK; rw [if_neg h]
    rw [hk]; clear hk
    go_enter Try.func77, Try.ntmps77
    go_wp2_with (go_at_call 90; refine (compare_any _ _ _).mono ?_; rintro e w' ⟨rfl, rfl⟩)
    go_ret
    exact ⟨rfl, rfl⟩

theorem keyAhead_any (a0 a1 b0 b1 : Int) (w : World) :
    Calls Try.prog 57 #[kv a0 a1, kv b0 b1] w fun e w' => e = .returned (.bool (aheadB a0 a1 b0 b1)) ∧ w' = (((w.alloc (kb a0 a1)).alloc (kb b0 b1)).alloc (kb a0 a1)).alloc (kb b0 b1) := by
  rw [← cmpK_neg]
  go_enter Try.func57, Try.ntmps57
  go_wp2_with (go_at_call 77; refine (compareKeys_any _ _ _ _ _).mono ?_; rintro e w' ⟨rfl, rfl⟩)
  go_ret
  exact ⟨rfl, rfl⟩

theorem specAhead_any (a0 a1 b0 b1 : Int) (w : World) :
    Calls Try.prog 72 #[kv a0 a1, kv b0 b1] w fun e w' => e = .returned (.bool (aheadB a0 a1 b0 b1)) ∧ w' = (w.alloc (kb a0 a1)).alloc (kb b0 b1) := by
  by_cases h1 : a0 < b0
  · have hr : aheadB a0 a1 b0 b1 = true := by simp [aheadB, h1]
    rw [hr]; clear hr
    go_enter Try.func72, Try.ntmps72
    go_wp2
    go_ret
    exact ⟨rfl, rfl⟩
  · by_cases h : a0 = b0
    · have h' : (a0 == b0) = true := by simpa using h
      by_cases h2 : a1 < b1
      · have hr : aheadB a0 a1 b0 b1 = true := by simp [aheadB, h, h2]
        rw [hr]; clear hr
        subst h
        go_enter Try.func72, Try.ntmps72
        go_wp2
        go_ret
        exact ⟨rfl, rfl⟩
      · have hr : aheadB a0 a1 b0 b1 = false := by simp [aheadB, h]; omega
        rw [hr]; clear hr
        subst h
        go_enter Try.func72, Try.ntmps72
        go_wp2
        go_ret
        exact ⟨rfl, rfl⟩
    · have h' : (a0 == b0) = false := by simpa using h
      have hr : aheadB a0 a1 b0 b1 = false := by simp [aheadB, h]; omega
      rw [hr]; clear hr
      go_enter Try.func72, Try.ntmps72
      go_wp2
      go_ret
      exact ⟨rfl, rfl⟩
end Go.Proofs.Ytjilbfohfgalkaa
/- Contracts of the reader that the drawn laws draw from: each of its methods returns, and turns its own block alone; no condition on the bytes. -/
namespace Go.Proofs.Ytjilbfohfgalkaa
open Go.RowKit
namespace Q

/-- A reader lies in block R, at or beyond B; its bytes lie below B. -/
def Rd (B R : Nat) (W : World) : Prop :=
  ∃ (a : Option Addr) (len cap p : Nat), p ≤ len ∧ len ≤ maxLen ∧ B ≤ R ∧ W.heap[R]? = some (.cells #[.slice a len cap, .int .i64 p] 74) ∧
    ∀ i, i < len → ∃ b off x, a = some ⟨b, off, none⟩ ∧ b < B ∧ W.cell? ⟨b, off + i, none⟩ = some (.int .u8 x) ∧ 0 ≤ x ∧ x ≤ 255

theorem Rd.lt {B R : Nat} {W : World} (h : Rd B R W) : R < W.heap.size := by
  obtain ⟨a, len, cap, p, _, _, _, h3, _⟩ := h
  exact (Array.getElem?_eq_some_iff.1 h3).1
theorem Rd.le {B R : Nat} {W : World} (h : Rd B R W) : B ≤ R := by
  obtain ⟨a, len, cap, p, _, _, h3, _, _⟩ := h
  exact h3

/-- What turns neither the reader nor its bytes keeps the reader. -/
theorem Rd.kept {B R : Nat} {W W' : World} {row : Option Nat} (h : Rd B R W) (hg : W.grownBy W' row) (hne : ∀ j, row = some j → B ≤ j ∧ j ≠ R) : Rd B R W' := by
  obtain ⟨a, len, cap, p, h1, h2, hB, h3, h4⟩ := h
  refine ⟨a, len, cap, p, h1, h2, hB, ?_, fun i hi => ?_⟩
  · rw [hg.block R (Array.getElem?_eq_some_iff.1 h3).1 (fun e => (hne R e.symm).2 rfl)]; exact h3
  · obtain ⟨b, off, x, e, hb, hc, hx⟩ := h4 i hi
    exact ⟨b, off, x, e, hb, hg.cell hc (fun e => by have := (hne _ e.symm).1; simp at this; omega), hx⟩
theorem Rd.alloc {B R : Nat} {W : World} (h : Rd B R W) (o : Obj) : Rd B R (W.alloc o) := h.kept (World.grownBy_alloc _ _ none) (fun j e => by cases e)
theorem Rd.drewN {B R : Nat} {W : World} (h : Rd B R W) (n : Nat) : Rd B R (W.drewN n) := h

/-- A block that is not the row's stands. -/
theorem blk {W W' : World} {R k : Nat} {o : Obj} (hg : W.grownBy W' (some R)) (h : W.heap[k]? = some o) (hne : k ≠ R) : W'.heap[k]? = some o :=
  (hg.block k (Array.getElem?_eq_some_iff.1 h).1 (by simpa using hne)).trans h
theorem blk_new (W : World) (o : Obj) : (W.alloc o).heap[W.heap.size]? = some o := heap_alloc_new W o
theorem blk_old {W : World} {k : Nat} {o : Obj} (h : W.heap[k]? = some o) (o' : Obj) : (W.alloc o').heap[k]? = some o :=
  (Below.heap_alloc W o' k (Array.getElem?_eq_some_iff.1 h).1).trans h
theorem blk_lt {W : World} {k : Nat} {o : Obj} (h : W.heap[k]? = some o) : k < W.heap.size := (Array.getElem?_eq_some_iff.1 h).1

theorem grown_below {W W' : World} (h : Below W.heap.size W W') : W.grownBy W' none := ⟨h.os, h.tape, h.output, h.size, fun k hk _ => h.block k hk⟩
theorem below_grown {W W' : World} (h : W.grownBy W' none) : Below W.heap.size W W' := ⟨h.os, h.tape, h.output, h.size, fun k hk => h.block k hk (by simp)⟩
theorem grown_drewN (W : World) (n : Nat) (row : Option Nat) : W.grownBy (W.drewN n) row := ⟨rfl, rfl, rfl, Nat.le_refl _, fun _ _ _ => rfl⟩
theorem grown_drew (W : World) (row : Option Nat) : W.grownBy W.drew row := ⟨rfl, rfl, rfl, Nat.le_refl _, fun _ _ _ => rfl⟩
theorem grown_setCell (W : World) (b o : Nat) (v : Value) : W.grownBy (W.setCell ⟨b, o, none⟩ v) (some b) :=
  ⟨rfl, rfl, rfl, by simp [World.setCell], fun k _ hne => Below.heap_setCell _ _ _ _ (fun e => hne (by rw [e]))⟩

theorem l1Open_any (a : Option Addr) (len cap : Nat) (W : World) :
    Calls Try.prog 17 #[.slice a len cap] W fun e W' => e = .returned (.pointer (some ⟨W.heap.size, 0, none⟩)) ∧ W' = W.alloc (.cells #[.slice a len cap, .int .i64 0] 74) := by
  go_enter Try.func17, Try.ntmps17
  go_wp2
  go_ret
  exact ⟨rfl, rfl⟩

theorem rd_cells {R : Nat} {W : World} {u v : Value} {t : TypeId} (h : W.heap[R]? = some (.cells #[u, v] t)) :
    W.cell? ⟨R, 0, none⟩ = some u ∧ W.cell? ⟨R, 1, none⟩ = some v ∧ W.frozen? ⟨R, 0, none⟩ = false ∧ W.frozen? ⟨R, 1, none⟩ = false := by
  simp [World.cell?, World.frozen?, h]
theorem rd_set {R : Nat} {W : World} {u v v' : Value} {t : TypeId} (h : W.heap[R]? = some (.cells #[u, v] t)) :
    (W.setCell ⟨R, 1, none⟩ v').heap[R]? = some (.cells #[u, v'] t) := by
  simp [World.setCell, Array.getElem?_modify, h]

theorem put2 {R : Nat} {W : World} {u v : Value} {t : TypeId} (h : W.heap[R]? = some (.cells #[u, v] t)) (u' v' : Value) :
    ((W.setCell ⟨R, 0, none⟩ u').setCell ⟨R, 1, none⟩ v').heap[R]? = some (.cells #[u', v'] t) := by
  simp [World.setCell, Array.getElem?_modify, h]
theorem grown_put2 (W : World) (R : Nat) (u' v' : Value) : W.grownBy ((W.setCell ⟨R, 0, none⟩ u').setCell ⟨R, 1, none⟩ v') (some R) := (grown_setCell _ _ _ _).trans (grown_setCell _ _ _ _)

set_option maxHeartbeats 400000 in
theorem next_any (B R : Nat) (W : World) (h : Rd B R W) :
    Calls Try.prog 65 #[.pointer (some ⟨R, 0, none⟩)] W fun e W' => ∃ x : Int, 0 ≤ x ∧ x ≤ 255 ∧ e = .returned (.int .i64 x) ∧ Rd B R W' ∧ W.grownBy W' (some R) := by
  obtain ⟨a, len, cap, p, h1, h2, hB, h3, h4⟩ := h
  obtain ⟨c0, c1, f0, f1⟩ := rd_cells h3
  unfold maxLen at h2
  by_cases hp : p < len
  · obtain ⟨b, off, x, rfl, hb, hc, hx0, hx1⟩ := h4 p hp
    go_enter Try.func65, Try.ntmps65
    go_wp2
    go_quiet (fail)
    go_wp2
    have k3 : ((W.drewN nq).setCell ⟨R, 1, none⟩ (.int .i64 ((p : Int) + 1))).heap[R]? = some (.cells #[.slice (some ⟨b, off, none⟩) len cap, .int .i64 ((p : Int) + 1)] 74) := rd_set (W := W.drewN nq) h3
    have g1 : W.grownBy ((W.drewN nq).setCell ⟨R, 1, none⟩ (.int .i64 ((p : Int) + 1))) (some R) := (grown_drewN W nq _).trans (grown_setCell _ _ _ _)
    generalize (W.drewN nq).setCell ⟨R, 1, none⟩ (.int .i64 ((p : Int) + 1)) = W1 at k3 g1 ⊢
    clear c0 c1 f0 f1
    obtain ⟨c0, c1, f0, f1⟩ := rd_cells k3
    have hc1 : W1.cell? ⟨b, off + p, none⟩ = some (.int .u8 x) := g1.cell hc (by simp; omega)
    clear hc
    go_quiet (fail)
    go_wp2
    go_ret
    refine ⟨x, hx0, hx1, rfl, ⟨_, len, cap, p + 1, by omega, by unfold maxLen; omega, hB, by simpa using k3, fun i hi => ?_⟩, g1.trans (grown_drewN W1 nq _)⟩
    obtain ⟨b', off', y, e, hb', hc', hy⟩ := h4 i hi
    exact ⟨b', off', y, e, hb', g1.cell hc' (by simp; omega), hy⟩
  · go_enter Try.func65, Try.ntmps65
    go_wp2
    go_quiet (fail)
    go_wp2
    go_ret
    exact ⟨0, by omega, by omega, rfl, ⟨a, len, cap, p, h1, by unfold maxLen; omega, hB, h3, h4⟩, grown_drewN W nq _⟩

theorem below_any (B R : Nat) (n : Int) (W : World) (h : Rd B R W) (h1 : 1 ≤ n) (h2 : n ≤ 65536) :
    Calls Try.prog 40 #[.pointer (some ⟨R, 0, none⟩), .int .i64 n] W fun e W' => ∃ x : Int, 0 ≤ x ∧ x < n ∧ e = .returned (.int .i64 x) ∧ Rd B R W' ∧ W.grownBy W' (some R) := by
  by_cases e1 : n ≤ 1
  · go_enter Try.func40, Try.ntmps40
    go_wp2
    go_ret
    exact ⟨0, by omega, by omega, rfl, h, World.grownBy.refl _ _⟩
  · by_cases e2 : n ≤ 256
    · go_enter Try.func40, Try.ntmps40
      go_wp2_with (go_at_call 65; refine (next_any B R _ h).mono ?_; rintro e w' ⟨x, hx0, hx1, rfl, hR, hg⟩)
      go_ret
      exact ⟨x % n, Int.emod_nonneg _ (by omega), Int.emod_lt_of_pos _ (by omega), rfl, hR, hg⟩
    · go_enter Try.func40, Try.ntmps40
      go_wp2_with fail
      refine (next_any B R _ h).mono ?_
      rintro e w1 ⟨x, hx0, hx1, rfl, hR, hg⟩
      go_wp2_with fail
      refine (next_any B R _ hR).mono ?_
      rintro e w2 ⟨y, hy0, hy1, rfl, hR2, hg2⟩
      go_wp2
      go_ret
      exact ⟨(x * 256 + y) % n, Int.emod_nonneg _ (by omega), Int.emod_lt_of_pos _ (by omega), rfl, hR2, hg.trans hg2⟩

theorem once_any (B R : Nat) (n : Int) (W : World) (h : Rd B R W) (h1 : 1 ≤ n) (h2 : n ≤ 65536) :
    Calls Try.prog 20 #[.pointer (some ⟨R, 0, none⟩), .int .i64 n] W fun e W' => ∃ x : Bool, e = .returned (.bool x) ∧ Rd B R W' ∧ W.grownBy W' (some R) := by
  go_enter Try.func20, Try.ntmps20
  go_wp2_with (go_at_call 40; refine (below_any B R _ _ h h1 h2).mono ?_; rintro e w' ⟨x, hx0, hx1, rfl, hR, hg⟩)
  go_ret
  exact ⟨_, rfl, hR, hg⟩

set_option maxHeartbeats 400000 in
theorem word_any (B R : Nat) (W : World) (h : Rd B R W) :
    Calls Try.prog 67 #[.pointer (some ⟨R, 0, none⟩)] W fun e W' => ∃ x : Int, 0 ≤ x ∧ x < 18446744073709551616 ∧ e = .returned (.int .u64 x) ∧ Rd B R W' ∧ W.grownBy W' (some R) := by
  go_enter Try.func67, Try.ntmps67
  go_wp2
  go_loopw [3, 4] (fun t i wr => ∃ (k : Nat) (x : Int), k ≤ 8 ∧ i = .int .i64 k ∧ t = .int .u64 x ∧ 0 ≤ x ∧ x < 18446744073709551616 ∧ Rd B R wr ∧ W.grownBy wr (some R)) (fun _ i _ => 8 - (intOf i).toNat)
  case atStart => exact ⟨0, 0, by omega, rfl, rfl, by omega, by omega, h, World.grownBy.refl _ _⟩
  case round =>
    obtain ⟨k, x, hk, rfl, rfl, hx0, hx1, hR, hg⟩ := hrel
    by_cases hlt : k < 8
    · go_wp2_with (go_at_call 65; refine (next_any B R _ hR).mono ?_; rintro e w' ⟨y, hy0, hy1, rfl, hR', hg'⟩)
      go_roundw
      case rel => exact ⟨k + 1, _, by omega, by go_num, rfl, (bounds_u64 (wf_bits _ _ _ _)).1, by have := (bounds_u64 (wf_bits .or .u64 (IntKind.u64.wrap (x * 256)) y)).2; omega, hR', hg.trans hg'⟩
      case measure => simp [intOf]; omega
    · go_wp2
      go_ret
      exact ⟨x, hx0, hx1, rfl, hR, hg⟩

set_option maxHeartbeats 400000 in
theorem near_any (B R : Nat) (lo hi : Int) (W : World) (h : Rd B R W) (h0 : -1000000000000 ≤ lo) (h1 : lo ≤ hi) (h2 : hi ≤ 1000000000000) :
    Calls Try.prog 45 #[.pointer (some ⟨R, 0, none⟩), .int .i64 lo, .int .i64 hi] W fun e W' => ∃ x : Int, lo ≤ x ∧ x ≤ hi ∧ e = .returned (.int .i64 x) ∧ Rd B R W' ∧ W.grownBy W' (some R) := by
  go_enter Try.func45, Try.ntmps45
  go_wp2_with fail
  refine (below_any B R _ _ h (by omega) (by omega)).mono ?_
  rintro e w1 ⟨x, hx0, hx1, rfl, hR, hg⟩
  by_cases e0 : x = 0
  · subst e0
    go_wp2
    go_ret
    exact ⟨lo, by omega, by omega, rfl, hR, hg⟩
  · by_cases e1 : x = 1
    · subst e1
      go_wp2
      go_ret
      exact ⟨hi, by omega, by omega, rfl, hR, hg⟩
    · have e0' : (x == 0) = false := by simpa using e0
      have e1' : (x == 1) = false := by simpa using e1
      have e2 : ¬ hi < lo := by omega
      go_wp2_with fail
      refine (word_any B R _ hR).mono ?_
      rintro e w2 ⟨y, hy0, hy1, rfl, hR2, hg2⟩
      go_wp2
      go_ret
      have q0 := Int.emod_nonneg (y / 2) (show hi - lo + 1 ≠ 0 by omega)
      have q1 := Int.emod_lt_of_pos (y / 2) (show 0 < hi - lo + 1 by omega)
      refine ⟨lo + y / 2 % (hi - lo + 1), by omega, by omega, ?_, hR2, hg.trans hg2⟩
      show Ending.returned (.int .i64 (wrap64 (lo + wrap64 (y / 2 % (hi - lo + 1))))) = _
      rw [IntWalk.wrap64_in (y / 2 % (hi - lo + 1)) ⟨by omega, by omega⟩, IntWalk.wrap64_in (lo + y / 2 % (hi - lo + 1)) ⟨by omega, by omega⟩]

theorem cell_lit4 (W : World) (t : TypeId) (a b c d : Value) (x : Int) (h0 : 0 ≤ x) (h1 : x < 4) : ∃ v, (v = a ∨ v = b ∨ v = c ∨ v = d) ∧ (W.alloc (.cells #[a, b, c, d] t)).cell? ⟨W.heap.size, x.toNat, none⟩ = some v := by
  have : x = 0 ∨ x = 1 ∨ x = 2 ∨ x = 3 := by omega
  rcases this with rfl | rfl | rfl | rfl
  · exact ⟨a, by simp, by simp⟩
  · exact ⟨b, by simp, by simp⟩
  · exact ⟨c, by simp, by simp⟩
  · exact ⟨d, by simp, by simp⟩

set_option maxHeartbeats 400000 in
theorem off_any (B R : Nat) (lo hi : Int) (W : World) (h : Rd B R W) (h0 : -1000000000000 ≤ lo) (h1 : lo ≤ hi) (h2 : hi ≤ 1000000000000) :
    Calls Try.prog 19 #[.pointer (some ⟨R, 0, none⟩), .int .i64 lo, .int .i64 hi] W fun e W' => ∃ x : Int, (Lit.int .i64 x).wf = true ∧ e = .returned (.int .i64 x) ∧ Rd B R W' ∧ W.grownBy W' (some R) := by
  go_enter Try.func19, Try.ntmps19
  go_wp2_with fail
  refine (once_any B R _ _ h (by omega) (by omega)).mono ?_
  rintro e w1 ⟨x, rfl, hR, hg⟩
  cases x with
  | false =>
    go_wp2_with fail
    refine (near_any B R _ _ _ hR h0 h1 h2).mono ?_
    rintro e w2 ⟨y, hy0, hy1, rfl, hR2, hg2⟩
    go_wp2
    go_ret
    exact ⟨y, WalkArith.wf_i64 (by omega), rfl, hR2, hg.trans hg2⟩
  | true =>
    go_wp2_with fail
    refine (below_any B R _ _ (hR.alloc _) (by omega) (by omega)).mono ?_
    rintro e w2 ⟨y, hy0, hy1, rfl, hR2, hg2⟩
    have hlt := hR.lt
    obtain ⟨v, hv, hc⟩ := cell_lit4 w1 2 (.int .i64 (lo - 1)) (.int .i64 (hi + 1)) (.int .i64 (-9223372036854775808)) (.int .i64 9223372036854775807) y hy0 hy1
    have hc2 := hg2.cell hc (by simp; omega)
    obtain ⟨z, rfl, hz⟩ : ∃ z, v = .int .i64 z ∧ (Lit.int .i64 z).wf = true := by
      rcases hv with rfl | rfl | rfl | rfl
      · exact ⟨_, rfl, WalkArith.wf_i64 (by omega)⟩
      · exact ⟨_, rfl, WalkArith.wf_i64 (by omega)⟩
      · exact ⟨_, rfl, by decide⟩
      · exact ⟨_, rfl, by decide⟩
    clear hv hc
    go_wp2
    go_ret
    exact ⟨z, hz, rfl, hR2, (hg.trans (World.grownBy_alloc _ _ _)).trans hg2⟩

set_option maxHeartbeats 400000 in
theorem key_any (B R : Nat) (W : World) (h : Rd B R W) :
    Calls Try.prog 44 #[.pointer (some ⟨R, 0, none⟩)] W fun e W' => ∃ n v : Int, 1 ≤ n ∧ n ≤ 4 ∧ (Lit.int .i64 v).wf = true ∧ e = .returned (kv n v) ∧ Rd B R W' ∧ W.grownBy W' (some R) := by
  have hlt := h.lt
  go_enter Try.func44, Try.ntmps44
  go_wp2_with fail
  refine (below_any B R _ _ (h.alloc _) (by omega) (by omega)).mono ?_
  rintro e w1 ⟨x, hx0, hx1, rfl, hR1, hg1⟩
  go_wp2_with fail
  refine (below_any B R _ _ hR1 (by omega) (by omega)).mono ?_
  rintro e w2 ⟨y, hy0, hy1, rfl, hR2, hg2⟩
  have hlt2 := hR2.lt
  have hs1 := hg1.size
  have hs2 := hg2.size
  simp at hs1
  have bN := blk hg2 (blk hg1 (blk_new W (kb 0 0)) (by omega)) (by omega)
  go_wp2_with fail
  refine (once_any B R _ _ (hR2.alloc _) (by omega) (by omega)).mono ?_
  rintro e w3 ⟨x3, rfl, hR3, hg3⟩
  have bN3 := blk hg3 (blk_old bN (kb (1 + x) (1 + y))) (by omega)
  have bK3 := blk hg3 (blk_new w2 (kb (1 + x) (1 + y))) (by omega)
  have hgg : W.grownBy w3 (some R) := ((((World.grownBy_alloc _ _ _).trans hg1).trans hg2).trans (World.grownBy_alloc _ _ _)).trans hg3
  have hs3 := hg3.size
  simp at hs3
  cases x3 with
  | false =>
    obtain ⟨c0, c1, f0, f1⟩ := rd_cells bN3
    obtain ⟨d0, d1, e0, e1⟩ := rd_cells bK3
    go_wp2
    have bF := put2 bN3 (.int .i64 (1 + x)) (.int .i64 (1 + y))
    have gF := grown_put2 w3 W.heap.size (.int .i64 (1 + x)) (.int .i64 (1 + y))
    generalize (w3.setCell ⟨W.heap.size, 0, none⟩ (.int .i64 (1 + x))).setCell ⟨W.heap.size, 1, none⟩ (.int .i64 (1 + y)) = WF at bF gF ⊢
    obtain ⟨p0, p1, _, _⟩ := rd_cells bF
    exact bodyPost_ret (v := kv (1 + x) (1 + y)) (by simp [results, Try.results44, go_sem, p0, p1]) rfl
      ⟨1 + x, 1 + y, by omega, by omega, WalkArith.wf_i64 (by omega), rfl, hR3.kept gF (fun j e => by cases e; have := h.le; omega), hgg.andThen gF (fun j e => by cases e; exact .inl (Nat.le_refl _))⟩
  | true =>
    go_wp2_with fail
    refine (off_any B R _ _ _ hR3 (by omega) (by omega) (by omega)).mono ?_
    rintro e w4 ⟨z, hz, rfl, hR4, hg4⟩
    have bN4 := blk hg4 bN3 (by omega)
    have bK4 := blk hg4 bK3 (by omega)
    obtain ⟨c0, c1, f0, f1⟩ := rd_cells bN4
    obtain ⟨d0, d1, e0, e1⟩ := rd_cells bK4
    go_wp2
    have gE := grown_setCell w4 w2.heap.size 1 (.int .i64 z)
    have bN5 := blk gE bN4 (by omega)
    have gR := hR4.kept gE (fun j e => by cases e; have := h.le; omega)
    generalize w4.setCell ⟨w2.heap.size, 1, none⟩ (.int .i64 z) = WE at bN5 gE gR ⊢
    have bF := put2 bN5 (.int .i64 (1 + x)) (.int .i64 z)
    have gF := grown_put2 WE W.heap.size (.int .i64 (1 + x)) (.int .i64 z)
    generalize (WE.setCell ⟨W.heap.size, 0, none⟩ (.int .i64 (1 + x))).setCell ⟨W.heap.size, 1, none⟩ (.int .i64 z) = WF at bF gF ⊢
    obtain ⟨p0, p1, _, _⟩ := rd_cells bF
    exact bodyPost_ret (v := kv (1 + x) z) (by simp [results, Try.results44, go_sem, p0, p1]) rfl
      ⟨1 + x, z, by omega, by omega, hz, rfl, gR.kept gF (fun j e => by cases e; have := h.le; omega), (((hgg.trans hg4).andThen gE (fun j e => by cases e; exact .inl (by omega))).andThen gF (fun j e => by cases e; exact .inl (Nat.le_refl _)))⟩
end Q
end Go.Proofs.Ytjilbfohfgalkaa
/- Lists of numbers in memory of the call's own: what the laws' helpers on them do. -/
namespace Go.Proofs.Ytjilbfohfgalkaa
open Go.RowKit

/-- The slice v holds the numbers xs, in a block at or beyond B. -/
def Ints (B : Nat) (v : Value) (xs : List Int) (W : World) : Prop := W.ownsRow B 2 1 v xs.length (xs.map (Value.int .i64))

theorem Ints.kept {B : Nat} {v : Value} {xs : List Int} {W W' : World} {row : Option Nat} (h : Ints B v xs W) (hg : W.grownBy W' row) (hne : ∀ k, row = some k → v.ownBlock ≠ some k) : Ints B v xs W' := by
  refine World.ownsRow.kept h hg ?_
  cases row with
  | none => cases e : v.ownBlock <;> simp
  | some k => exact .inr (hne k rfl)
theorem Ints.mono {B B' : Nat} {v : Value} {xs : List Int} {W : World} (h : Ints B v xs W) (hB : B' ≤ B) : Ints B' v xs W := by
  refine ⟨h.1, ?_⟩
  rcases h.2 with hn | ⟨g, cap, cur, e, hb, rest⟩
  · exact .inl hn
  · exact .inr ⟨g, cap, cur, e, by omega, rest⟩
theorem Ints.lt {B : Nat} {v : Value} {xs : List Int} {W : World} (h : Ints B v xs W) : ∀ k, v.ownBlock = some k → B ≤ k ∧ k < W.heap.size := World.ownsRow.lt h

/-- The slice's own form: its length, and each of its cells. -/
theorem Ints.form {B : Nat} {v : Value} {xs : List Int} {W : World} (h : Ints B v xs W) :
    (v = .slice none 0 0 ∧ xs = []) ∨ ∃ g cap, v = .slice (some ⟨g, 0, none⟩) xs.length cap ∧ B ≤ g ∧ g < W.heap.size ∧ xs.length ≤ cap ∧ cap ≤ maxLen ∧
      ∀ i (hi : i < xs.length), W.cell? ⟨g, i, none⟩ = some (.int .i64 xs[i]) ∧ W.frozen? ⟨g, i, none⟩ = false := by
  obtain ⟨_, h2⟩ := h
  rcases h2 with ⟨e, hn⟩ | ⟨g, cap, cur, e, hb, hg, h1, h3, h4, h5⟩
  · exact .inl ⟨e, List.length_eq_zero_iff.1 hn⟩
  · refine .inr ⟨g, cap, e, hb, (Array.getElem?_eq_some_iff.1 hg).1, h1, h3, fun i hi => ?_⟩
    have hc : cur[i]? = some (.int .i64 xs[i]) := by
      have := congrArg (fun l => l[i]?) h5
      simp [hi] at this
      simpa [Nat.mul_one, hi] using this
    have hlt : i < cur.size := (Array.getElem?_eq_some_iff.1 hc).1
    refine ⟨by simp [World.cell?, hg, hc], by simp [World.frozen?, hg]⟩

theorem Ints.len_le {B : Nat} {v : Value} {xs : List Int} {W : World} (h : Ints B v xs W) : xs.length ≤ maxLen := by
  rcases h.form with ⟨_, rfl⟩ | ⟨g, cap, _, _, _, h1, h2, _⟩
  · exact Nat.zero_le _
  · omega


/-- Behind an append to a row of the call's own nothing below has turned. -/
theorem app_below {B : Nat} {v : Value} {xs : List Int} {w wr w2 : World} {o : Obj} (hI : Ints B v xs wr) (hB : Below B w wr) (hg : (wr.alloc o).grownBy w2 v.ownBlock) (hle : B ≤ wr.heap.size := by omega) : Below B w w2 :=
  (hB.alloc hle o).grown hg (by simp; omega) (fun k e => (hI.lt k e).1)
theorem Ints.drewN {B : Nat} {v : Value} {xs : List Int} {W : World} (h : Ints B v xs W) (n : Nat) : Ints B v xs (W.drewN n) := h
theorem Ints.below {B C : Nat} {v : Value} {xs : List Int} {W W' : World} (h : Ints B v xs W) (hb : Below C W W') (hC : ∀ k, v.ownBlock = some k → k < C) : Ints B v xs W' := by
  refine ⟨h.1, ?_⟩
  rcases h.2 with hn | ⟨g, cap, cur, rfl, hb', hg, rest⟩
  · exact .inl hn
  · refine .inr ⟨g, cap, cur, rfl, hb', ?_, rest⟩
    rw [hb.block g (hC g rfl)]
    exact hg

end Go.Proofs.Ytjilbfohfgalkaa
/- What the exact laws' helpers on lists of numbers do. -/
namespace Go.Proofs.Ytjilbfohfgalkaa
open Go.RowKit

def eqI (xs ys : List Int) : Bool := decide (xs = ys)
/-- Two rows that agree so far. -/
theorem eq_of_pre {xs ys : List Int} (hl : xs.length = ys.length) (h : ∀ i (hi : i < xs.length), xs[i] = ys[i]'(by omega)) : xs = ys := List.ext_getElem hl fun i h1 _ => h i h1

/-- The numbers k, k + 1 .. -/
def marks (k : Int) (n : Nat) : List Int := (List.range n).map fun (i : Nat) => k + (i : Int)
theorem marks_length (k : Int) (n : Nat) : (marks k n).length = n := by simp [marks]
theorem marks_get (k : Int) (n i : Nat) (h : i < (marks k n).length) : (marks k n)[i] = k + (i : Int) := by simp [marks]
/-- The row when j marks have been made. -/
def partMarks (k : Int) (xs : List Int) (j : Nat) : List Int := marks k j ++ xs.drop j
theorem partMarks_length (k : Int) (xs : List Int) (j : Nat) (h : j ≤ xs.length) : (partMarks k xs j).length = xs.length := by simp [partMarks, marks_length]; omega
theorem partMarks_set (k : Int) (xs : List Int) (j : Nat) (h : j < xs.length) : (partMarks k xs j).set j (k + (j : Int)) = partMarks k xs (j + 1) := by
  unfold partMarks
  rw [List.drop_eq_getElem_cons h]
  have : marks k (j + 1) = marks k j ++ [k + (j : Int)] := by simp [marks, List.range_succ]
  rw [this, List.append_assoc, List.set_append_right _ _ (by simp [marks_length])]
  simp [marks_length]
  rw [List.drop_eq_getElem_cons h, List.set_cons_zero]

end Go.Proofs.Ytjilbfohfgalkaa
/- Lists of keys in memory, and what the functions on single keys do: l2Key, keyOk. -/
namespace Go.Proofs.Ytjilbfohfgalkaa
open Go.RowKit

/-- The cells of keys. -/
def kcells (ks : List (Int × Int)) : List Value := ks.flatMap fun k => [.int .i64 k.1, .int .i64 k.2]
theorem kcells_length (ks : List (Int × Int)) : (kcells ks).length = ks.length * 2 := by
  induction ks with
  | nil => rfl
  | cons k ks ih => simp only [kcells, List.flatMap_cons, List.length_append, List.length_cons, List.length_nil] at ih ⊢; omega
theorem kcells_append (a b : List (Int × Int)) : kcells (a ++ b) = kcells a ++ kcells b := by simp [kcells]
theorem kcells_get (ks : List (Int × Int)) : ∀ i (hi : i < ks.length), (kcells ks)[i * 2]? = some (.int .i64 ks[i].1) ∧ (kcells ks)[i * 2 + 1]? = some (.int .i64 ks[i].2) := by
  induction ks with
  | nil => intro i hi; simp at hi
  | cons k ks ih =>
    intro i hi
    match i, hi with
    | 0, _ => simp [kcells]
    | i + 1, hi =>
      have := ih i (by simpa using hi)
      have e1 : (i + 1) * 2 = i * 2 + 1 + 1 := by omega
      have e2 : (i + 1) * 2 + 1 = i * 2 + 1 + 1 + 1 := by omega
      rw [e2, e1]
      simpa [kcells] using this

/-- The slice v holds the keys ks, in a block at or beyond B. -/
def Keys (B : Nat) (v : Value) (ks : List (Int × Int)) (W : World) : Prop := W.ownsRow B 36 2 v ks.length (kcells ks)

theorem Keys.kept {B : Nat} {v : Value} {ks : List (Int × Int)} {W W' : World} {row : Option Nat} (h : Keys B v ks W) (hg : W.grownBy W' row) (hne : ∀ k, row = some k → v.ownBlock ≠ some k) : Keys B v ks W' := by
  refine World.ownsRow.kept h hg ?_
  cases row with
  | none => cases e : v.ownBlock <;> simp
  | some k => exact .inr (hne k rfl)
theorem Keys.mono {B B' : Nat} {v : Value} {ks : List (Int × Int)} {W : World} (h : Keys B v ks W) (hB : B' ≤ B) : Keys B' v ks W := by
  refine ⟨h.1, ?_⟩
  rcases h.2 with hn | ⟨g, cap, cur, e, hb, rest⟩
  · exact .inl hn
  · exact .inr ⟨g, cap, cur, e, by omega, rest⟩
theorem Keys.lt {B : Nat} {v : Value} {ks : List (Int × Int)} {W : World} (h : Keys B v ks W) : ∀ k, v.ownBlock = some k → B ≤ k ∧ k < W.heap.size := World.ownsRow.lt h
theorem Keys.drewN {B : Nat} {v : Value} {ks : List (Int × Int)} {W : World} (h : Keys B v ks W) (n : Nat) : Keys B v ks (W.drewN n) := h
theorem Keys.below {B C : Nat} {v : Value} {ks : List (Int × Int)} {W W' : World} (h : Keys B v ks W) (hb : Below C W W') (hC : ∀ k, v.ownBlock = some k → k < C) : Keys B v ks W' := by
  refine ⟨h.1, ?_⟩
  rcases h.2 with hn | ⟨g, cap, cur, rfl, hb', hg, rest⟩
  · exact .inl hn
  · refine .inr ⟨g, cap, cur, rfl, hb', ?_, rest⟩
    rw [hb.block g (hC g rfl)]
    exact hg

/-- Keys lie in block b from offset 'off' on. -/
def KSeg (b off : Nat) (ks : List (Int × Int)) (W : World) : Prop :=
  ∀ i (hi : i < ks.length), W.cell? ⟨b, off + i * 2, none⟩ = some (.int .i64 ks[i].1) ∧ W.cell? ⟨b, off + i * 2 + 1, none⟩ = some (.int .i64 ks[i].2)
theorem KSeg.kept {b off : Nat} {ks : List (Int × Int)} {W W' : World} (h : KSeg b off ks W) (hb : W'.heap[b]? = W.heap[b]?) : KSeg b off ks W' := fun i hi =>
  ⟨(World.cell?_of_block (a := ⟨b, off + i * 2, none⟩) hb).trans (h i hi).1, (World.cell?_of_block (a := ⟨b, off + i * 2 + 1, none⟩) hb).trans (h i hi).2⟩

theorem Keys.form {B : Nat} {v : Value} {ks : List (Int × Int)} {W : World} (h : Keys B v ks W) :
    (v = .slice none 0 0 ∧ ks = []) ∨ ∃ g cap, v = .slice (some ⟨g, 0, none⟩) ks.length cap ∧ B ≤ g ∧ g < W.heap.size ∧ ks.length ≤ cap ∧ cap ≤ maxLen ∧ KSeg g 0 ks W ∧ ∀ o, W.frozen? ⟨g, o, none⟩ = false := by
  obtain ⟨_, h2⟩ := h
  rcases h2 with ⟨e, hn⟩ | ⟨g, cap, cur, e, hb, hg, h1, h3, h4, h5⟩
  · exact .inl ⟨e, List.length_eq_zero_iff.1 hn⟩
  · refine .inr ⟨g, cap, e, hb, (Array.getElem?_eq_some_iff.1 hg).1, h1, h3, fun i hi => ?_, fun o => by simp [World.frozen?, hg]⟩
    have hk := kcells_get ks i hi
    have c1 : cur[i * 2]? = some (.int .i64 ks[i].1) := by
      have h := hk.1
      rw [← h5, List.getElem?_take_of_lt (by omega)] at h
      simpa using h
    have c2 : cur[i * 2 + 1]? = some (.int .i64 ks[i].2) := by
      have h := hk.2
      rw [← h5, List.getElem?_take_of_lt (by omega)] at h
      simpa using h
    exact ⟨by simp [World.cell?, hg, c1], by simp [World.cell?, hg, c2]⟩

theorem cell_later2 {W W' : World} {p : Addr} {v : Value} (h : W.cell? p = some v) (hb : Below W.heap.size W W') : W'.cell? p = some v :=
  (hb.cell (World.block_lt_of_cell? W p h)).trans h
/-- Four cells stand behind what makes memory alone. -/
theorem later4 {w W W' : World} {p1 p2 p3 p4 : Addr} {v1 v2 v3 v4 : Value} (h : W.cell? p1 = some v1 ∧ W.cell? p2 = some v2 ∧ W.cell? p3 = some v3 ∧ W.cell? p4 = some v4 ∧ Below w.heap.size w W) (hb : Below W.heap.size W W') :
    W'.cell? p1 = some v1 ∧ W'.cell? p2 = some v2 ∧ W'.cell? p3 = some v3 ∧ W'.cell? p4 = some v4 ∧ Below w.heap.size w W' :=
  ⟨cell_later2 h.1 hb, cell_later2 h.2.1 hb, cell_later2 h.2.2.1 hb, cell_later2 h.2.2.2.1 hb, h.2.2.2.2.trans (hb.mono h.2.2.2.2.size)⟩
/-- Two cells stand behind what makes memory alone. -/
theorem later2 {w W W' : World} {p1 p2 : Addr} {v1 v2 : Value} (h : W.cell? p1 = some v1 ∧ W.cell? p2 = some v2 ∧ Below w.heap.size w W) (hb : Below W.heap.size W W') :
    W'.cell? p1 = some v1 ∧ W'.cell? p2 = some v2 ∧ Below w.heap.size w W' :=
  ⟨cell_later2 h.1 hb, cell_later2 h.2.1 hb, h.2.2.trans (hb.mono h.2.2.size)⟩

/-- A key is right. -/
def okK (n v : Int) : Bool := decide ((1 ≤ n ∧ n ≤ 15) ∧ 1 ≤ v ∧ v ≤ 1000000000)
theorem l1InK_any (n lo hi : Int) (w : World) :
    Calls Try.prog 50 #[.int .i64 n, .int .i64 lo, .int .i64 hi] w fun e w' => e = .returned (.bool (decide (lo ≤ n ∧ n ≤ hi))) ∧ w' = w := by
  by_cases h1 : lo ≤ n
  · by_cases h2 : n ≤ hi
    · rw [decide_eq_true ⟨h1, h2⟩]
      go_enter Try.func50, Try.ntmps50
      go_wp2
      go_ret
      exact ⟨by simp, rfl⟩
    · rw [decide_eq_false (fun h => h2 h.2)]
      go_enter Try.func50, Try.ntmps50
      go_wp2
      go_ret
      exact ⟨by simp, rfl⟩
  · rw [decide_eq_false (fun h => h1 h.1)]
    go_enter Try.func50, Try.ntmps50
    go_wp2
    go_ret
    exact ⟨rfl, rfl⟩
theorem isNodeK_any (n : Int) (w : World) :
    Calls Try.prog 76 #[.int .i64 n] w fun e w' => e = .returned (.bool (decide (1 ≤ n ∧ n ≤ 15))) ∧ w' = w := by
  by_cases h1 : 1 ≤ n
  · by_cases h2 : n ≤ 15
    · rw [decide_eq_true ⟨h1, h2⟩]
      go_enter Try.func76, Try.ntmps76
      go_wp2
      go_ret
      exact ⟨by simp, rfl⟩
    · rw [decide_eq_false (fun h => h2 h.2)]
      go_enter Try.func76, Try.ntmps76
      go_wp2
      go_ret
      exact ⟨by simp, rfl⟩
  · rw [decide_eq_false (fun h => h1 h.1)]
    go_enter Try.func76, Try.ntmps76
    go_wp2
    go_ret
    exact ⟨rfl, rfl⟩

theorem l2Key_any (n v : Int) (w : World) :
    Calls Try.prog 71 #[kv n v] w fun e w' => e = .returned (.bool (okK n v)) ∧ w' = w.alloc (kb n v) := by
  by_cases h1 : 1 ≤ n ∧ n ≤ 15
  · have hd : decide (1 ≤ n ∧ n ≤ 15) = true := decide_eq_true h1
    have hr : okK n v = decide (1 ≤ v ∧ v ≤ 1000000000) := by unfold okK; rw [decide_eq_decide]; exact ⟨fun h => h.2, fun h => ⟨h1, h⟩⟩
    rw [hr]
    go_enter Try.func71, Try.ntmps71
    go_wp2_with fail
    refine (l1InK_any _ _ _ _).mono ?_
    rintro e w' ⟨rfl, rfl⟩
    rw [hd]
    go_wp2_with fail
    refine (l1InK_any _ _ _ _).mono ?_
    rintro e w' ⟨rfl, rfl⟩
    go_wp2
    go_ret
    exact ⟨by simp, rfl⟩
  · have hd : decide (1 ≤ n ∧ n ≤ 15) = false := decide_eq_false h1
    have hr : okK n v = false := decide_eq_false fun h => h1 h.1
    rw [hr]
    go_enter Try.func71, Try.ntmps71
    go_wp2_with fail
    refine (l1InK_any _ _ _ _).mono ?_
    rintro e w' ⟨rfl, rfl⟩
    rw [hd]
    go_wp2
    go_ret
    exact ⟨rfl, rfl⟩

theorem keyOk_any (n v : Int) (w : World) :
    Calls Try.prog 56 #[kv n v] w fun e w' => e = .returned (.bool (okK n v)) ∧ w' = w.alloc (kb n v) := by
  by_cases h1 : 1 ≤ n ∧ n ≤ 15
  · have hd : decide (1 ≤ n ∧ n ≤ 15) = true := decide_eq_true h1
    by_cases h2 : 1 ≤ v
    · have hr : okK n v = decide (v ≤ 1000000000) := by unfold okK; rw [decide_eq_decide]; exact ⟨fun h => h.2.2, fun h => ⟨h1, h2, h⟩⟩
      rw [hr]
      go_enter Try.func56, Try.ntmps56
      go_wp2_with fail
      refine (isNodeK_any _ _).mono ?_
      rintro e w' ⟨rfl, rfl⟩
      rw [hd]
      go_wp2
      go_ret
      exact ⟨rfl, rfl⟩
    · have hr : okK n v = false := decide_eq_false fun h => h2 h.2.1
      have hd2 : decide (1 ≤ v) = false := decide_eq_false h2
      rw [hr]
      go_enter Try.func56, Try.ntmps56
      go_wp2_with fail
      refine (isNodeK_any _ _).mono ?_
      rintro e w' ⟨rfl, rfl⟩
      rw [hd]
      go_wp2
      go_ret
      exact ⟨rfl, rfl⟩
  · have hd : decide (1 ≤ n ∧ n ≤ 15) = false := decide_eq_false h1
    have hr : okK n v = false := decide_eq_false fun h => h1 h.1
    rw [hr]
    go_enter Try.func56, Try.ntmps56
    go_wp2_with fail
    refine (isNodeK_any _ _).mono ?_
    rintro e w' ⟨rfl, rfl⟩
    rw [hd]
    go_wp2
    go_ret
    exact ⟨rfl, rfl⟩
end Go.Proofs.Ytjilbfohfgalkaa
/- Lists of keys: how they are laid anew, and as they come in. -/
namespace Go.Proofs.Ytjilbfohfgalkaa
open Go.RowKit

theorem infoK : (Try.prog.info? 36).map (fun i => (i.zero, i.size, i.bytes)) = some (some (.agg #[.int .i64 0, .int .i64 0]), 2, 16) := by kernel_rfl

/-- The keys when i of them have been laid. -/
def partKeys (ks : List (Int × Int)) (i : Nat) : List (Int × Int) := ks.take i ++ List.replicate (ks.length - i) (0, 0)
theorem partKeys_length (ks : List (Int × Int)) (i : Nat) (h : i ≤ ks.length) : (partKeys ks i).length = ks.length := by simp [partKeys]; omega
theorem kcells_set (l : List (Int × Int)) : ∀ (i : Nat) (a b : Int), i < l.length → ((kcells l).set (i * 2) (.int .i64 a)).set (i * 2 + 1) (.int .i64 b) = kcells (l.set i (a, b)) := by
  induction l with
  | nil => intro i a b h; simp at h
  | cons k l ih =>
    intro i a b h
    match i, h with
    | 0, _ => simp [kcells]
    | i + 1, h =>
      have := ih i a b (by simpa using h)
      have e1 : (i + 1) * 2 = i * 2 + 1 + 1 := by omega
      have e2 : (i + 1) * 2 + 1 = i * 2 + 1 + 1 + 1 := by omega
      rw [e2, e1]
      simpa [kcells] using this
theorem partKeys_set (ks : List (Int × Int)) (i : Nat) (h : i < ks.length) : (partKeys ks i).set i ks[i] = partKeys ks (i + 1) := by
  unfold partKeys
  have e : ks.length - i = (ks.length - (i + 1)) + 1 := by omega
  have hl : (ks.take i).length = i := by simp; omega
  rw [e, List.replicate_succ, List.take_succ_eq_append_getElem h, List.append_assoc, List.set_append_right _ _ (by omega), hl, Nat.sub_self, List.set_cons_zero]
  rfl
theorem Keys.stored {B g cap : Nat} {l : List (Int × Int)} {n : Nat} {W : World} (hn : l.length = n) (h : Keys B (.slice (some ⟨g, 0, none⟩) n cap) l W) (i : Nat) (hi : i < l.length) (a b : Int) :
    Keys B (.slice (some ⟨g, 0, none⟩) n cap) (l.set i (a, b)) ((W.setCell ⟨g, i * 2, none⟩ (.int .i64 a)).setCell ⟨g, i * 2 + 1, none⟩ (.int .i64 b)) ∧
      W.grownBy ((W.setCell ⟨g, i * 2, none⟩ (.int .i64 a)).setCell ⟨g, i * 2 + 1, none⟩ (.int .i64 b)) (some g) := by
  subst hn
  have h1 := World.ownsRow.stored h (i * 2) (.int .i64 a)
  have h2 := h1.1.stored (i * 2 + 1) (.int .i64 b)
  rw [kcells_set _ _ _ _ hi] at h2
  refine ⟨?_, h1.2.trans h2.2⟩
  unfold Keys
  rw [List.length_set]
  exact h2.1
theorem made_two (c : Value) (n : Nat) : (madeCells #[c, c] n).toList = List.replicate n c := by
  apply List.ext_getElem?
  intro j
  by_cases hj : j < n
  · have h2 : j % 2 = 0 ∨ j % 2 = 1 := by omega
    rcases h2 with h2 | h2 <;> simp [madeCells, hj, h2]
  · simp [madeCells, hj]
theorem kcells_zero (n : Nat) : kcells (List.replicate n (0, 0)) = List.replicate (n * 2) (.int .i64 0) := by
  induction n with
  | zero => rfl
  | succ n ih =>
    have e : (n + 1) * 2 = n * 2 + 1 + 1 := by omega
    rw [e, List.replicate_succ, List.replicate_succ, List.replicate_succ, ← ih]
    rfl

theorem below_grown {W W' : World} (h : W.grownBy W' none) : Below W.heap.size W W' := ⟨h.os, h.tape, h.output, h.size, fun k hk => h.block k hk (by simp)⟩

/-- A list of the laws' keys, as it came in. -/
def InKeys (v : Value) (ks : List (Int × Int)) (W : World) : Prop :=
  (∃ a c, v = .slice a 0 c ∧ ks = []) ∨ ∃ b off c, v = .slice (some ⟨b, off, none⟩) ks.length c ∧ b < W.heap.size ∧ ks.length ≤ maxLen ∧ KSeg b off ks W
theorem InKeys.below {v : Value} {ks : List (Int × Int)} {W W' : World} {C : Nat} (h : InKeys v ks W) (hb : Below C W W') (hC : W.heap.size ≤ C) : InKeys v ks W' := by
  rcases h with h | ⟨b, off, c, e, hl, hm, hs⟩
  · exact .inl h
  · exact .inr ⟨b, off, c, e, by have := hb.size; omega, hm, hs.kept (hb.block b (by omega))⟩
theorem InKeys.len {v : Value} {ks : List (Int × Int)} {W : World} (h : InKeys v ks W) : ∃ a c, v = .slice a ks.length c ∧ ks.length ≤ maxLen := by
  rcases h with ⟨a, c, rfl, rfl⟩ | ⟨b, off, c, rfl, _, hm, _⟩
  · exact ⟨_, _, rfl, Nat.zero_le _⟩
  · exact ⟨_, _, rfl, hm⟩
end Go.Proofs.Ytjilbfohfgalkaa
/- Lists of seats in memory, and what the exact laws' helpers on them do: toSeat, toSeatS, szSeatS. -/
namespace Go.Proofs.Ytjilbfohfgalkaa
open Go.RowKit
abbrev sb (n v : Int) : Obj := .cells #[.int .i64 n, .int .i64 v] 90

/-- The slice v holds the keys ks, in a block at or beyond B. -/
def Seats (B : Nat) (v : Value) (ks : List (Int × Int)) (W : World) : Prop := W.ownsRow B 90 2 v ks.length (kcells ks)

theorem Seats.kept {B : Nat} {v : Value} {ks : List (Int × Int)} {W W' : World} {row : Option Nat} (h : Seats B v ks W) (hg : W.grownBy W' row) (hne : ∀ k, row = some k → v.ownBlock ≠ some k) : Seats B v ks W' := by
  refine World.ownsRow.kept h hg ?_
  cases row with
  | none => cases e : v.ownBlock <;> simp
  | some k => exact .inr (hne k rfl)
theorem Seats.mono {B B' : Nat} {v : Value} {ks : List (Int × Int)} {W : World} (h : Seats B v ks W) (hB : B' ≤ B) : Seats B' v ks W := by
  refine ⟨h.1, ?_⟩
  rcases h.2 with hn | ⟨g, cap, cur, e, hb, rest⟩
  · exact .inl hn
  · exact .inr ⟨g, cap, cur, e, by omega, rest⟩
theorem Seats.lt {B : Nat} {v : Value} {ks : List (Int × Int)} {W : World} (h : Seats B v ks W) : ∀ k, v.ownBlock = some k → B ≤ k ∧ k < W.heap.size := World.ownsRow.lt h
theorem Seats.drewN {B : Nat} {v : Value} {ks : List (Int × Int)} {W : World} (h : Seats B v ks W) (n : Nat) : Seats B v ks (W.drewN n) := h
theorem Seats.below {B C : Nat} {v : Value} {ks : List (Int × Int)} {W W' : World} (h : Seats B v ks W) (hb : Below C W W') (hC : ∀ k, v.ownBlock = some k → k < C) : Seats B v ks W' := by
  refine ⟨h.1, ?_⟩
  rcases h.2 with hn | ⟨g, cap, cur, rfl, hb', hg, rest⟩
  · exact .inl hn
  · refine .inr ⟨g, cap, cur, rfl, hb', ?_, rest⟩
    rw [hb.block g (hC g rfl)]
    exact hg

theorem Seats.form {B : Nat} {v : Value} {ks : List (Int × Int)} {W : World} (h : Seats B v ks W) :
    (v = .slice none 0 0 ∧ ks = []) ∨ ∃ g cap, v = .slice (some ⟨g, 0, none⟩) ks.length cap ∧ B ≤ g ∧ g < W.heap.size ∧ ks.length ≤ cap ∧ cap ≤ maxLen ∧ KSeg g 0 ks W ∧ ∀ o, W.frozen? ⟨g, o, none⟩ = false := by
  obtain ⟨_, h2⟩ := h
  rcases h2 with ⟨e, hn⟩ | ⟨g, cap, cur, e, hb, hg, h1, h3, h4, h5⟩
  · exact .inl ⟨e, List.length_eq_zero_iff.1 hn⟩
  · refine .inr ⟨g, cap, e, hb, (Array.getElem?_eq_some_iff.1 hg).1, h1, h3, fun i hi => ?_, fun o => by simp [World.frozen?, hg]⟩
    have hk := kcells_get ks i hi
    have c1 : cur[i * 2]? = some (.int .i64 ks[i].1) := by
      have h := hk.1
      rw [← h5, List.getElem?_take_of_lt (by omega)] at h
      simpa using h
    have c2 : cur[i * 2 + 1]? = some (.int .i64 ks[i].2) := by
      have h := hk.2
      rw [← h5, List.getElem?_take_of_lt (by omega)] at h
      simpa using h
    exact ⟨by simp [World.cell?, hg, c1], by simp [World.cell?, hg, c2]⟩

theorem infoSt : (Try.prog.info? 90).map (fun i => (i.zero, i.size, i.bytes)) = some (some (.agg #[.int .i64 0, .int .i64 0]), 2, 16) := by kernel_rfl

theorem Seats.stored {B g cap : Nat} {l : List (Int × Int)} {n : Nat} {W : World} (hn : l.length = n) (h : Seats B (.slice (some ⟨g, 0, none⟩) n cap) l W) (i : Nat) (hi : i < l.length) (a b : Int) :
    Seats B (.slice (some ⟨g, 0, none⟩) n cap) (l.set i (a, b)) ((W.setCell ⟨g, i * 2, none⟩ (.int .i64 a)).setCell ⟨g, i * 2 + 1, none⟩ (.int .i64 b)) ∧
      W.grownBy ((W.setCell ⟨g, i * 2, none⟩ (.int .i64 a)).setCell ⟨g, i * 2 + 1, none⟩ (.int .i64 b)) (some g) := by
  subst hn
  have h1 := World.ownsRow.stored h (i * 2) (.int .i64 a)
  have h2 := h1.1.stored (i * 2 + 1) (.int .i64 b)
  rw [kcells_set _ _ _ _ hi] at h2
  refine ⟨?_, h1.2.trans h2.2⟩
  unfold Seats
  rw [List.length_set]
  exact h2.1
/-- A list of the laws' keys, as it came in. -/
def InSeats (v : Value) (ks : List (Int × Int)) (W : World) : Prop :=
  (∃ a c, v = .slice a 0 c ∧ ks = []) ∨ ∃ b off c, v = .slice (some ⟨b, off, none⟩) ks.length c ∧ b < W.heap.size ∧ ks.length ≤ maxLen ∧ KSeg b off ks W
theorem InSeats.below {v : Value} {ks : List (Int × Int)} {W W' : World} {C : Nat} (h : InSeats v ks W) (hb : Below C W W') (hC : W.heap.size ≤ C) : InSeats v ks W' := by
  rcases h with h | ⟨b, off, c, e, hl, hm, hs⟩
  · exact .inl h
  · exact .inr ⟨b, off, c, e, by have := hb.size; omega, hm, hs.kept (hb.block b (by omega))⟩
theorem InSeats.len {v : Value} {ks : List (Int × Int)} {W : World} (h : InSeats v ks W) : ∃ a c, v = .slice a ks.length c ∧ ks.length ≤ maxLen := by
  rcases h with ⟨a, c, rfl, rfl⟩ | ⟨b, off, c, rfl, _, hm, _⟩
  · exact ⟨_, _, rfl, Nat.zero_le _⟩
  · exact ⟨_, _, rfl, hm⟩

end Go.Proofs.Ytjilbfohfgalkaa
/- What the laws' comparison of two lists of keys does. -/
namespace Go.Proofs.Ytjilbfohfgalkaa
open Go.RowKit

def sameK (a0 a1 b0 b1 : Int) : Bool := decide (a0 = b0 ∧ a1 = b1)
theorem two_below (w : World) (o o' : Obj) : Below w.heap.size w ((w.alloc o).alloc o') := ((Below.refl _ _).alloc (Nat.le_refl _) o).alloc (by simp) o'

def eqL (xs ys : List (Int × Int)) : Bool := decide (xs = ys)
theorem eqL_len {xs ys : List (Int × Int)} (h : xs.length ≠ ys.length) : eqL xs ys = false := decide_eq_false fun e => h (by rw [e])
end Go.Proofs.Ytjilbfohfgalkaa
/- What the laws' comparison of two lists of keys does. -/
namespace Go.Proofs.Ytjilbfohfgalkaa
open Go.RowKit

end Go.Proofs.Ytjilbfohfgalkaa
/- A region that draws its order, walked once in the order of the text, where what is known of the world (S) is kept by every callee: for any program. -/
namespace Go.Proofs.Ytjilbfohfgalkaa
open Go.RowKit

/-- A world of which S is known. -/
def SW (S : World → Prop) : Type := { W : World // S W }
def SW.w {S : World → Prop} (s : SW S) : World := s.1
theorem SW.is {S : World → Prop} (s : SW S) : S s.w := s.2
theorem SW.of {S : World → Prop} {W : World} (h : S W) : ∃ s : SW S, W = s.w := ⟨⟨W, h⟩, rfl⟩

theorem SW.some {S : World → Prop} {W : World} (h : S W) : Nonempty (SW S) := ⟨⟨W, h⟩⟩

/-- Two cells hold these values, and nothing has turned since w. -/
def Cs2 (w : World) (p1 : Addr) (v1 : Value) (p2 : Addr) (v2 : Value) (W : World) : Prop := W.cell? p1 = some v1 ∧ W.cell? p2 = some v2 ∧ Below w.heap.size w W
/-- Four cells hold these values, and nothing has turned since w. -/
def Cs4 (w : World) (p1 : Addr) (v1 : Value) (p2 : Addr) (v2 : Value) (p3 : Addr) (v3 : Value) (p4 : Addr) (v4 : Value) (W : World) : Prop := W.cell? p1 = some v1 ∧ W.cell? p2 = some v2 ∧ W.cell? p3 = some v3 ∧ W.cell? p4 = some v4 ∧ Below w.heap.size w W
theorem cell_since {W W' : World} {p : Addr} {v : Value} (h : W.cell? p = some v) (hb : Below W.heap.size W W') : W'.cell? p = some v := (hb.cell (World.block_lt_of_cell? W p h)).trans h
theorem Cs2.later {w W W' : World} {p1 p2 : Addr} {v1 v2 : Value} (h : Cs2 w p1 v1 p2 v2 W) (hb : Below W.heap.size W W') : Cs2 w p1 v1 p2 v2 W' :=
  ⟨cell_since h.1 hb, cell_since h.2.1 hb, h.2.2.trans (hb.mono h.2.2.size)⟩
theorem Cs4.later {w W W' : World} {p1 p2 p3 p4 : Addr} {v1 v2 v3 v4 : Value} (h : Cs4 w p1 v1 p2 v2 p3 v3 p4 v4 W) (hb : Below W.heap.size W W') : Cs4 w p1 v1 p2 v2 p3 v3 p4 v4 W' :=
  ⟨cell_since h.1 hb, cell_since h.2.1 hb, cell_since h.2.2.1 hb, cell_since h.2.2.2.1 hb, h.2.2.2.2.trans (hb.mono h.2.2.2.2.size)⟩

theorem wp_region_S (S : World → Prop) {P : Program} {id : Nat} {Q : Exit → Act → World → Prop} {a : Act} {w : World} {l : List Oper} (hm : P.follows .mixedOrders = true) (hB : Region.lexB .any l.toArray = true) (hS : S w.drew)
    (h : wpQuiet P l.toArray (fun w' => ∃ s : SW S, w' = s.w) (fun a' => ∀ w', (∃ s : SW S, w' = s.w) → Q .normal a' w') l a) : (Code.region id l.toArray true).wp P Q a w :=
  wp_region_quiet (C := fun w' => ∃ s : SW S, w' = s.w) hm hB (SW.of hS) (by simpa using h)
end Go.Proofs.Ytjilbfohfgalkaa
/- The contracts of KnownOk, of the program and of the model: at most 200 right keys that rise. -/
namespace Go.Proofs.Ytjilbfohfgalkaa
open Go.RowKit

def kAt (ks : List (Int × Int)) (i : Nat) : Int × Int := ks.getD i (0, 0)
theorem kAt_get (ks : List (Int × Int)) (i : Nat) (h : i < ks.length) : kAt ks i = ks[i] := by simp [kAt, h]
def okAt (ks : List (Int × Int)) (i : Nat) : Bool := okK (kAt ks i).1 (kAt ks i).2 && (decide (i = 0) || aheadB (kAt ks (i - 1)).1 (kAt ks (i - 1)).2 (kAt ks i).1 (kAt ks i).2)
def allTo (ks : List (Int × Int)) (m : Nat) : Bool := (List.range m).all (okAt ks)
theorem allTo_succ (ks : List (Int × Int)) (m : Nat) : allTo ks (m + 1) = (allTo ks m && okAt ks m) := by simp [allTo, List.range_succ]
theorem allTo_false {ks : List (Int × Int)} {m n : Nat} (h : okAt ks m = false) (hn : m < n) : allTo ks n = false := by
  simp only [allTo, List.all_eq_false]
  exact ⟨m, List.mem_range.2 hn, by simp [h]⟩
def knownB (ks : List (Int × Int)) : Bool := decide (ks.length ≤ 200) && allTo ks ks.length
theorem one_below (w : World) (o : Obj) : Below w.heap.size w (w.alloc o) := (Below.refl _ _).alloc (Nat.le_refl _) o
theorem l2Key_below (n v : Int) (w : World) :
    Calls Try.prog 71 #[kv n v] w fun e w' => e = .returned (.bool (okK n v)) ∧ Below w.heap.size w w' := (l2Key_any n v w).mono fun _ _ h => ⟨h.1, h.2 ▸ one_below _ _⟩
theorem keyOk_below (n v : Int) (w : World) :
    Calls Try.prog 56 #[kv n v] w fun e w' => e = .returned (.bool (okK n v)) ∧ Below w.heap.size w w' := (keyOk_any n v w).mono fun _ _ h => ⟨h.1, h.2 ▸ one_below _ _⟩
theorem specAheadK (a0 a1 b0 b1 : Int) (w : World) :
    Calls Try.prog 72 #[kv a0 a1, kv b0 b1] w fun e w' => e = .returned (.bool (aheadB a0 a1 b0 b1)) ∧ Below w.heap.size w w' :=
  (specAhead_any a0 a1 b0 b1 w).mono fun _ _ h => ⟨h.1, by rw [h.2]; exact ((Below.refl _ _).alloc (Nat.le_refl _) _).alloc (by simp) _⟩
theorem keyAheadK (a0 a1 b0 b1 : Int) (w : World) :
    Calls Try.prog 57 #[kv a0 a1, kv b0 b1] w fun e w' => e = .returned (.bool (aheadB a0 a1 b0 b1)) ∧ Below w.heap.size w w' :=
  (keyAhead_any a0 a1 b0 b1 w).mono fun _ _ h => ⟨h.1, by rw [h.2]; exact ((((Below.refl _ _).alloc (Nat.le_refl _) _).alloc (by simp) _).alloc (by simp; omega) _).alloc (by simp; omega) _⟩

theorem specKnownOk_none (a : Option Addr) (c : Nat) (w : World) :
    Calls Try.prog 51 #[.slice a 0 c] w fun e w' => e = .returned (.bool true) ∧ w' = w := by
  go_enter Try.func51, Try.ntmps51
  go_wp2
  refine wp_loop_rounds 1 ?_
  rw [rounds_succ]
  go_wp2
  go_ret
  exact ⟨by simp, rfl⟩

set_option maxHeartbeats 1000000 in
theorem specKnownOk_row (g c : Nat) (ks : List (Int × Int)) (w : World) (hm : ks.length ≤ maxLen) (hg : g < w.heap.size) (h1 : KSeg g 0 ks w) :
    Calls Try.prog 51 #[.slice (some ⟨g, 0, none⟩) ks.length c] w fun e w' => e = .returned (.bool (knownB ks)) ∧ Below w.heap.size w w' := by
  unfold maxLen at hm
  generalize hn : ks.length = n at hm ⊢
  go_enter Try.func51, Try.ntmps51
  go_wp2
  go_loopw [3] (fun i wr => ∃ k : Nat, k ≤ n ∧ i = .int .i64 k ∧ allTo ks k = true ∧ Below w.heap.size w wr) (fun i _ => n - (intOf i).toNat)
  case atStart => exact ⟨0, Nat.zero_le _, rfl, rfl, Below.refl _ _⟩
  case round =>
    obtain ⟨k, hk, rfl, hpre, hB⟩ := hrel
    have HP : Hid (allTo ks k = true) := hpre
    have H1 : Hid (KSeg g 0 ks w) := h1
    clear hpre h1
    by_cases hlt : k < n
    · have hlk : k < ks.length := by omega
      obtain ⟨a1, a2⟩ := H1.out k hlk
      simp only [Nat.zero_add] at a1 a2
      have c1 : wr.cell? ⟨g, k * 2, none⟩ = some (.int .i64 ks[k].1) := (hB.cell (p := ⟨g, k * 2, none⟩) hg).trans a1
      have c2 : wr.cell? ⟨g, k * 2 + 1, none⟩ = some (.int .i64 ks[k].2) := (hB.cell (p := ⟨g, k * 2 + 1, none⟩) hg).trans a2
      have hsz := hB.size
      clear a1 a2
      have HO : Hid (okAt ks k = (okK ks[k].1 ks[k].2 && (decide (k = 0) || aheadB (kAt ks (k - 1)).1 (kAt ks (k - 1)).2 ks[k].1 ks[k].2))) := by
        show okAt ks k = _
        unfold okAt; rw [kAt_get ks k hlk]
      generalize ks[k].1 = x1 at c1 HO
      generalize ks[k].2 = x2 at c2 HO
      cases hok : okK x1 x2 with
      | false =>
        go_wp2
        have hS0 : Cs2 w ⟨g, k * 2, none⟩ (.int .i64 x1) ⟨g, k * 2 + 1, none⟩ (.int .i64 x2) wr.drew := ⟨c1, c2, hB.drew⟩
        have hSN := SW.some hS0
        have hS1 := fun s : SW (Cs2 w ⟨g, k * 2, none⟩ (.int .i64 x1) ⟨g, k * 2 + 1, none⟩ (.int .i64 x2)) => s.is.1
        have hS2 := fun s : SW (Cs2 w ⟨g, k * 2, none⟩ (.int .i64 x1) ⟨g, k * 2 + 1, none⟩ (.int .i64 x2)) => s.is.2.1
        refine wp_region_S (Cs2 w ⟨g, k * 2, none⟩ (.int .i64 x1) ⟨g, k * 2 + 1, none⟩ (.int .i64 x2)) (by kernel_rfl) (by kernel_rfl) hS0 ?_
        repeat (go_big_quiet_step ((rename_i s0; go_at_call 71; refine (l2Key_below x1 x2 _).mono ?_; rintro e w' ⟨rfl, hb⟩; rw [hok]; exact ⟨rfl, SW.of (s0.is.later hb)⟩)))
        refine wpQuiet_nil ?_
        rintro _ ⟨s, rfl⟩
        have hBf := s.is.2.2
        clear hS0 hSN hS1 hS2 c1 c2
        go_wp2
        go_ret
        refine ⟨?_, hBf⟩
        have hno : okAt ks k = false := by rw [HO.out, hok]; rfl
        have : knownB ks = false := by unfold knownB; rw [allTo_false hno hlk]; simp
        show Ending.returned (.bool false) = _
        rw [this]
      | true =>
        by_cases hk0 : k = 0
        · subst hk0
          go_wp2
          have hS0 : Cs2 w ⟨g, 0, none⟩ (.int .i64 x1) ⟨g, 1, none⟩ (.int .i64 x2) wr.drew := ⟨by simpa using c1, by simpa using c2, hB.drew⟩
          have hSN := SW.some hS0
          have hS1 := fun s : SW (Cs2 w ⟨g, 0, none⟩ (.int .i64 x1) ⟨g, 1, none⟩ (.int .i64 x2)) => s.is.1
          have hS2 := fun s : SW (Cs2 w ⟨g, 0, none⟩ (.int .i64 x1) ⟨g, 1, none⟩ (.int .i64 x2)) => s.is.2.1
          refine wp_region_S (Cs2 w ⟨g, 0, none⟩ (.int .i64 x1) ⟨g, 1, none⟩ (.int .i64 x2)) (by kernel_rfl) (by kernel_rfl) hS0 ?_
          repeat (go_big_quiet_step ((rename_i s0; go_at_call 71; refine (l2Key_below x1 x2 _).mono ?_; rintro e w' ⟨rfl, hb⟩; rw [hok]; exact ⟨rfl, SW.of (s0.is.later hb)⟩)))
          refine wpQuiet_nil ?_
          rintro _ ⟨s, rfl⟩
          have hBf := s.is.2.2
          clear hS0 hSN hS1 hS2 c1 c2
          have HA : Hid (allTo ks 1 = true) := by
            show allTo ks 1 = true
            rw [allTo_succ, HP.out, HO.out, hok]; rfl
          go_wp2
          go_roundw
          case rel => exact ⟨1, by omega, by go_num, HA.out, hBf⟩
          case measure => simp [intOf]; omega
        · have hkp : k - 1 < ks.length := by omega
          obtain ⟨a1, a2⟩ := H1.out (k - 1) hkp
          simp only [Nat.zero_add] at a1 a2
          have d1 : wr.cell? ⟨g, (k - 1) * 2, none⟩ = some (.int .i64 ks[k - 1].1) := (hB.cell (p := ⟨g, (k - 1) * 2, none⟩) hg).trans a1
          have d2 : wr.cell? ⟨g, (k - 1) * 2 + 1, none⟩ = some (.int .i64 ks[k - 1].2) := (hB.cell (p := ⟨g, (k - 1) * 2 + 1, none⟩) hg).trans a2
          clear a1 a2
          have HO2 : Hid (okAt ks k = (okK x1 x2 && (decide (k = 0) || aheadB ks[k - 1].1 ks[k - 1].2 x1 x2))) := by
            show okAt ks k = _
            rw [HO.out, kAt_get ks (k - 1) hkp]
          generalize ks[k - 1].1 = y1 at d1 HO2
          generalize ks[k - 1].2 = y2 at d2 HO2
          have hkn : 0 < k := by omega
          go_wp2
          have hS0 : Cs4 w ⟨g, k * 2, none⟩ (.int .i64 x1) ⟨g, k * 2 + 1, none⟩ (.int .i64 x2) ⟨g, (k - 1) * 2, none⟩ (.int .i64 y1) ⟨g, (k - 1) * 2 + 1, none⟩ (.int .i64 y2) wr.drew := ⟨c1, c2, d1, d2, hB.drew⟩
          have hSN := SW.some hS0
          have hS1 := fun s : SW (Cs4 w ⟨g, k * 2, none⟩ (.int .i64 x1) ⟨g, k * 2 + 1, none⟩ (.int .i64 x2) ⟨g, (k - 1) * 2, none⟩ (.int .i64 y1) ⟨g, (k - 1) * 2 + 1, none⟩ (.int .i64 y2)) => s.is.1
          have hS2 := fun s : SW (Cs4 w ⟨g, k * 2, none⟩ (.int .i64 x1) ⟨g, k * 2 + 1, none⟩ (.int .i64 x2) ⟨g, (k - 1) * 2, none⟩ (.int .i64 y1) ⟨g, (k - 1) * 2 + 1, none⟩ (.int .i64 y2)) => s.is.2.1
          have hS3 := fun s : SW (Cs4 w ⟨g, k * 2, none⟩ (.int .i64 x1) ⟨g, k * 2 + 1, none⟩ (.int .i64 x2) ⟨g, (k - 1) * 2, none⟩ (.int .i64 y1) ⟨g, (k - 1) * 2 + 1, none⟩ (.int .i64 y2)) => s.is.2.2.1
          have hS4 := fun s : SW (Cs4 w ⟨g, k * 2, none⟩ (.int .i64 x1) ⟨g, k * 2 + 1, none⟩ (.int .i64 x2) ⟨g, (k - 1) * 2, none⟩ (.int .i64 y1) ⟨g, (k - 1) * 2 + 1, none⟩ (.int .i64 y2)) => s.is.2.2.2.1
          refine wp_region_S (Cs4 w ⟨g, k * 2, none⟩ (.int .i64 x1) ⟨g, k * 2 + 1, none⟩ (.int .i64 x2) ⟨g, (k - 1) * 2, none⟩ (.int .i64 y1) ⟨g, (k - 1) * 2 + 1, none⟩ (.int .i64 y2)) (by kernel_rfl) (by kernel_rfl) hS0 ?_
          repeat (go_big_quiet_step ((rename_i s0; first | (go_at_call 71; refine (l2Key_below x1 x2 _).mono ?_; rintro e w' ⟨rfl, hb⟩; rw [hok]; exact ⟨rfl, SW.of (s0.is.later hb)⟩) | (go_at_call 72; refine (specAheadK y1 y2 x1 x2 _).mono ?_; rintro e w' ⟨rfl, hb⟩; exact ⟨rfl, SW.of (s0.is.later hb)⟩))))
          refine wpQuiet_nil ?_
          rintro _ ⟨s, rfl⟩
          have hBf := s.is.2.2.2.2
          clear hS0 hSN hS1 hS2 hS3 hS4 c1 c2 d1 d2
          cases hah : aheadB y1 y2 x1 x2 with
          | true =>
            have HA : Hid (allTo ks (k + 1) = true) := by
              show allTo ks (k + 1) = true
              rw [allTo_succ, HP.out, HO2.out, hok, hah]; simp
            go_wp2
            go_roundw
            case rel => exact ⟨k + 1, by omega, by go_num, HA.out, hBf⟩
            case measure => simp [intOf]; omega
          | false =>
            go_wp2
            go_ret
            refine ⟨?_, hBf⟩
            have hno : okAt ks k = false := by rw [HO2.out, hok, hah]; simp [hk0]
            have : knownB ks = false := by unfold knownB; rw [allTo_false hno hlk]; simp
            show Ending.returned (.bool false) = _
            rw [this]
    · have hke : k = n := by omega
      have hkb : knownB ks = decide (n ≤ 200) := by unfold knownB; rw [hn, ← hke, HP.out]; simp
      have HKB : Hid _ := hkb
      clear hkb
      go_wp2
      go_ret
      refine ⟨?_, hB⟩
      rw [HKB.out]
      have e : decide ((n : Int) ≤ 200) = decide (n ≤ 200) := by rw [decide_eq_decide]; omega
      rw [← e]
      rfl
end Go.Proofs.Ytjilbfohfgalkaa
/- The contract of KnownOk of the program. -/
namespace Go.Proofs.Ytjilbfohfgalkaa
open Go.RowKit

set_option maxHeartbeats 1000000 in
theorem knownOk_row (g c : Nat) (ks : List (Int × Int)) (w : World) (hm : ks.length ≤ maxLen) (hg : g < w.heap.size) (h1 : KSeg g 0 ks w) :
    Calls Try.prog 28 #[.slice (some ⟨g, 0, none⟩) ks.length c] w fun e w' => e = .returned (.bool (knownB ks)) ∧ Below w.heap.size w w' := by
  unfold maxLen at hm
  generalize hn : ks.length = n at hm ⊢
  by_cases h200 : (200 : Int) < (n : Int)
  · have hkf : knownB ks = false := by unfold knownB; rw [hn, decide_eq_false (by omega)]; rfl
    rw [hkf]
    go_enter Try.func28, Try.ntmps28
    go_wp2
    go_ret
    exact ⟨rfl, Below.refl _ _⟩
  go_enter Try.func28, Try.ntmps28
  go_wp2
  go_loopw [10] (fun i wr => ∃ k : Nat, k ≤ n ∧ i = .int .i64 k ∧ allTo ks k = true ∧ Below w.heap.size w wr) (fun i _ => n - (intOf i).toNat)
  case atStart => exact ⟨0, Nat.zero_le _, rfl, rfl, Below.refl _ _⟩
  case round =>
    obtain ⟨k, hk, rfl, hpre, hB⟩ := hrel
    have HP : Hid (allTo ks k = true) := hpre
    have H1 : Hid (KSeg g 0 ks w) := h1
    clear hpre h1
    by_cases hlt : k < n
    · have hlk : k < ks.length := by omega
      obtain ⟨a1, a2⟩ := H1.out k hlk
      simp only [Nat.zero_add] at a1 a2
      have c1 : wr.cell? ⟨g, k * 2, none⟩ = some (.int .i64 ks[k].1) := (hB.cell (p := ⟨g, k * 2, none⟩) hg).trans a1
      have c2 : wr.cell? ⟨g, k * 2 + 1, none⟩ = some (.int .i64 ks[k].2) := (hB.cell (p := ⟨g, k * 2 + 1, none⟩) hg).trans a2
      have hsz := hB.size
      clear a1 a2
      have HO : Hid (okAt ks k = (okK ks[k].1 ks[k].2 && (decide (k = 0) || aheadB (kAt ks (k - 1)).1 (kAt ks (k - 1)).2 ks[k].1 ks[k].2))) := by
        show okAt ks k = _
        unfold okAt; rw [kAt_get ks k hlk]
      generalize ks[k].1 = x1 at c1 HO
      generalize ks[k].2 = x2 at c2 HO
      have b1 : (wr.alloc (kb x1 x2)).cell? ⟨wr.heap.size, 0, none⟩ = some (.int .i64 x1) := by simp
      have b2 : (wr.alloc (kb x1 x2)).cell? ⟨wr.heap.size, 1, none⟩ = some (.int .i64 x2) := by simp
      have hBa : Below w.heap.size w (wr.alloc (kb x1 x2)) := hB.alloc hsz _
      cases hok : okK x1 x2 with
      | false =>
        go_wp2
        have hS0 : Cs2 w ⟨wr.heap.size, 0, none⟩ (.int .i64 x1) ⟨wr.heap.size, 1, none⟩ (.int .i64 x2) (wr.alloc (kb x1 x2)).drew := ⟨b1, b2, hBa.drew⟩
        have hSN := SW.some hS0
        have hS1 := fun s : SW (Cs2 w ⟨wr.heap.size, 0, none⟩ (.int .i64 x1) ⟨wr.heap.size, 1, none⟩ (.int .i64 x2)) => s.is.1
        have hS2 := fun s : SW (Cs2 w ⟨wr.heap.size, 0, none⟩ (.int .i64 x1) ⟨wr.heap.size, 1, none⟩ (.int .i64 x2)) => s.is.2.1
        refine wp_region_S (Cs2 w ⟨wr.heap.size, 0, none⟩ (.int .i64 x1) ⟨wr.heap.size, 1, none⟩ (.int .i64 x2)) (by kernel_rfl) (by kernel_rfl) hS0 ?_
        repeat (go_big_quiet_step ((rename_i s0; go_at_call 56; refine (keyOk_below x1 x2 _).mono ?_; rintro e w' ⟨rfl, hb⟩; rw [hok]; exact ⟨rfl, SW.of (s0.is.later hb)⟩)))
        refine wpQuiet_nil ?_
        rintro _ ⟨s, rfl⟩
        have hBf := s.is.2.2
        clear hS0 hSN hS1 hS2 c1 c2 b1 b2 hBa
        go_wp2
        go_ret
        refine ⟨?_, hBf⟩
        have hno : okAt ks k = false := by rw [HO.out, hok]; rfl
        have : knownB ks = false := by unfold knownB; rw [allTo_false hno hlk]; simp
        show Ending.returned (.bool false) = _
        rw [this]
      | true =>
        by_cases hk0 : k = 0
        · subst hk0
          simp only [Nat.zero_mul, Nat.zero_add] at c1 c2
          go_wp2
          have hS0 : Cs2 w ⟨wr.heap.size, 0, none⟩ (.int .i64 x1) ⟨wr.heap.size, 1, none⟩ (.int .i64 x2) (wr.alloc (kb x1 x2)).drew := ⟨b1, b2, hBa.drew⟩
          have hSN := SW.some hS0
          have hS1 := fun s : SW (Cs2 w ⟨wr.heap.size, 0, none⟩ (.int .i64 x1) ⟨wr.heap.size, 1, none⟩ (.int .i64 x2)) => s.is.1
          have hS2 := fun s : SW (Cs2 w ⟨wr.heap.size, 0, none⟩ (.int .i64 x1) ⟨wr.heap.size, 1, none⟩ (.int .i64 x2)) => s.is.2.1
          refine wp_region_S (Cs2 w ⟨wr.heap.size, 0, none⟩ (.int .i64 x1) ⟨wr.heap.size, 1, none⟩ (.int .i64 x2)) (by kernel_rfl) (by kernel_rfl) hS0 ?_
          repeat (go_big_quiet_step ((rename_i s0; go_at_call 56; refine (keyOk_below x1 x2 _).mono ?_; rintro e w' ⟨rfl, hb⟩; rw [hok]; exact ⟨rfl, SW.of (s0.is.later hb)⟩)))
          refine wpQuiet_nil ?_
          rintro _ ⟨s, rfl⟩
          have hBf := s.is.2.2
          clear hS0 hSN hS1 hS2 c1 c2 b1 b2 hBa
          have HA : Hid (allTo ks 1 = true) := by
            show allTo ks 1 = true
            rw [allTo_succ, HP.out, HO.out, hok]; rfl
          go_wp2
          go_roundw
          case rel => exact ⟨1, by omega, by go_num, HA.out, hBf⟩
          case measure => simp [intOf]; omega
        · have hkp : k - 1 < ks.length := by omega
          obtain ⟨a1, a2⟩ := H1.out (k - 1) hkp
          simp only [Nat.zero_add] at a1 a2
          have d1 : wr.cell? ⟨g, (k - 1) * 2, none⟩ = some (.int .i64 ks[k - 1].1) := (hB.cell (p := ⟨g, (k - 1) * 2, none⟩) hg).trans a1
          have d2 : wr.cell? ⟨g, (k - 1) * 2 + 1, none⟩ = some (.int .i64 ks[k - 1].2) := (hB.cell (p := ⟨g, (k - 1) * 2 + 1, none⟩) hg).trans a2
          clear a1 a2
          have HO2 : Hid (okAt ks k = (okK x1 x2 && (decide (k = 0) || aheadB ks[k - 1].1 ks[k - 1].2 x1 x2))) := by
            show okAt ks k = _
            rw [HO.out, kAt_get ks (k - 1) hkp]
          generalize ks[k - 1].1 = y1 at d1 HO2
          generalize ks[k - 1].2 = y2 at d2 HO2
          have hkn : 0 < k := by omega
          have f1 := cell_since d1 (one_below wr (kb x1 x2))
          have f2 := cell_since d2 (one_below wr (kb x1 x2))
          go_wp2
          have hS0 : Cs4 w ⟨wr.heap.size, 0, none⟩ (.int .i64 x1) ⟨wr.heap.size, 1, none⟩ (.int .i64 x2) ⟨g, (k - 1) * 2, none⟩ (.int .i64 y1) ⟨g, (k - 1) * 2 + 1, none⟩ (.int .i64 y2) (wr.alloc (kb x1 x2)).drew := ⟨b1, b2, f1, f2, hBa.drew⟩
          have hSN := SW.some hS0
          have hS1 := fun s : SW (Cs4 w ⟨wr.heap.size, 0, none⟩ (.int .i64 x1) ⟨wr.heap.size, 1, none⟩ (.int .i64 x2) ⟨g, (k - 1) * 2, none⟩ (.int .i64 y1) ⟨g, (k - 1) * 2 + 1, none⟩ (.int .i64 y2)) => s.is.1
          have hS2 := fun s : SW (Cs4 w ⟨wr.heap.size, 0, none⟩ (.int .i64 x1) ⟨wr.heap.size, 1, none⟩ (.int .i64 x2) ⟨g, (k - 1) * 2, none⟩ (.int .i64 y1) ⟨g, (k - 1) * 2 + 1, none⟩ (.int .i64 y2)) => s.is.2.1
          have hS3 := fun s : SW (Cs4 w ⟨wr.heap.size, 0, none⟩ (.int .i64 x1) ⟨wr.heap.size, 1, none⟩ (.int .i64 x2) ⟨g, (k - 1) * 2, none⟩ (.int .i64 y1) ⟨g, (k - 1) * 2 + 1, none⟩ (.int .i64 y2)) => s.is.2.2.1
          have hS4 := fun s : SW (Cs4 w ⟨wr.heap.size, 0, none⟩ (.int .i64 x1) ⟨wr.heap.size, 1, none⟩ (.int .i64 x2) ⟨g, (k - 1) * 2, none⟩ (.int .i64 y1) ⟨g, (k - 1) * 2 + 1, none⟩ (.int .i64 y2)) => s.is.2.2.2.1
          refine wp_region_S (Cs4 w ⟨wr.heap.size, 0, none⟩ (.int .i64 x1) ⟨wr.heap.size, 1, none⟩ (.int .i64 x2) ⟨g, (k - 1) * 2, none⟩ (.int .i64 y1) ⟨g, (k - 1) * 2 + 1, none⟩ (.int .i64 y2)) (by kernel_rfl) (by kernel_rfl) hS0 ?_
          repeat (go_big_quiet_step ((rename_i s0; first | (go_at_call 56; refine (keyOk_below x1 x2 _).mono ?_; rintro e w' ⟨rfl, hb⟩; rw [hok]; exact ⟨rfl, SW.of (s0.is.later hb)⟩) | (go_at_call 57; refine (keyAheadK y1 y2 x1 x2 _).mono ?_; rintro e w' ⟨rfl, hb⟩; exact ⟨rfl, SW.of (s0.is.later hb)⟩))))
          refine wpQuiet_nil ?_
          rintro _ ⟨s, rfl⟩
          have hBf := s.is.2.2.2.2
          clear hS0 hSN hS1 hS2 hS3 hS4 c1 c2 d1 d2 b1 b2 f1 f2 hBa
          cases hah : aheadB y1 y2 x1 x2 with
          | true =>
            have HA : Hid (allTo ks (k + 1) = true) := by
              show allTo ks (k + 1) = true
              rw [allTo_succ, HP.out, HO2.out, hok, hah]; simp
            go_wp2
            go_roundw
            case rel => exact ⟨k + 1, by omega, by go_num, HA.out, hBf⟩
            case measure => simp [intOf]; omega
          | false =>
            go_wp2
            go_ret
            refine ⟨?_, hBf⟩
            have hno : okAt ks k = false := by rw [HO2.out, hok, hah]; simp [hk0]
            have : knownB ks = false := by unfold knownB; rw [allTo_false hno hlk]; simp
            show Ending.returned (.bool false) = _
            rw [this]
    · have hke : k = n := by omega
      have hkb : knownB ks = true := by unfold knownB; rw [hn, ← hke, HP.out, decide_eq_true (by omega)]; rfl
      have HKB : Hid _ := hkb
      clear hkb
      go_wp2
      go_ret
      refine ⟨?_, hB⟩
      rw [HKB.out]
      rfl

theorem knownOk_none (a : Option Addr) (c : Nat) (w : World) :
    Calls Try.prog 28 #[.slice a 0 c] w fun e w' => e = .returned (.bool true) ∧ w' = w := by
  go_enter Try.func28, Try.ntmps28
  go_wp2
  refine wp_loop_rounds 1 ?_
  rw [rounds_succ]
  go_wp2
  go_ret
  exact ⟨by simp, rfl⟩

/-- KnownOk of the model, of keys wherever they lie. -/
theorem specKnownOk_any {B : Nat} {v : Value} {ks : List (Int × Int)} {w : World} (h : Keys B v ks w) :
    Calls Try.prog 51 #[v] w fun e w' => e = .returned (.bool (knownB ks)) ∧ Below w.heap.size w w' := by
  rcases h.form with ⟨rfl, rfl⟩ | ⟨g, cap, rfl, _, g1, h1, h2, h3, _⟩
  · exact (specKnownOk_none _ _ w).mono fun _ _ h => ⟨h.1, h.2 ▸ Below.refl _ _⟩
  · exact specKnownOk_row g cap ks w (by omega) g1 h3
theorem knownOk_any {B : Nat} {v : Value} {ks : List (Int × Int)} {w : World} (h : Keys B v ks w) :
    Calls Try.prog 28 #[v] w fun e w' => e = .returned (.bool (knownB ks)) ∧ Below w.heap.size w w' := by
  rcases h.form with ⟨rfl, rfl⟩ | ⟨g, cap, rfl, _, g1, h1, h2, h3, _⟩
  · exact (knownOk_none _ _ w).mono fun _ _ h => ⟨h.1, h.2 ▸ Below.refl _ _⟩
  · exact knownOk_row g cap ks w (by omega) g1 h3
end Go.Proofs.Ytjilbfohfgalkaa
/- The contracts of MemberOk, of the program and of the model: an Id 1 .. 20, an Epoch 0 .. 10^9, known keys, no two of one node. -/
namespace Go.Proofs.Ytjilbfohfgalkaa
open Go.RowKit

theorem more {w W W' : World} (h : Below w.heap.size w W) (hb : Below W.heap.size W W') : Below w.heap.size w W' := h.trans (hb.mono h.size)
abbrev mv (id ep : Int) (v : Value) : Value := .agg #[.int .i64 id, .int .i64 ep, v]

theorem isMember_any (n : Int) (w : World) :
    Calls Try.prog 26 #[.int .i64 n] w fun e w' => e = .returned (.bool (decide (1 ≤ n ∧ n ≤ 20))) ∧ w' = w := by
  by_cases h1 : 1 ≤ n
  · by_cases h2 : n ≤ 20
    · rw [decide_eq_true ⟨h1, h2⟩]
      go_enter Try.func26, Try.ntmps26
      go_wp2
      go_ret
      exact ⟨by simp, rfl⟩
    · rw [decide_eq_false (fun h => h2 h.2)]
      go_enter Try.func26, Try.ntmps26
      go_wp2
      go_ret
      exact ⟨by simp, rfl⟩
  · rw [decide_eq_false (fun h => h1 h.1)]
    go_enter Try.func26, Try.ntmps26
    go_wp2
    go_ret
    exact ⟨rfl, rfl⟩
theorem epochOk_any (n : Int) (w : World) :
    Calls Try.prog 27 #[.int .i64 n] w fun e w' => e = .returned (.bool (decide (0 ≤ n ∧ n ≤ 1000000000))) ∧ w' = w := by
  by_cases h1 : 0 ≤ n
  · by_cases h2 : n ≤ 1000000000
    · rw [decide_eq_true ⟨h1, h2⟩]
      go_enter Try.func27, Try.ntmps27
      go_wp2
      go_ret
      exact ⟨by simp, rfl⟩
    · rw [decide_eq_false (fun h => h2 h.2)]
      go_enter Try.func27, Try.ntmps27
      go_wp2
      go_ret
      exact ⟨by simp, rfl⟩
  · rw [decide_eq_false (fun h => h1 h.1)]
    go_enter Try.func27, Try.ntmps27
    go_wp2
    go_ret
    exact ⟨rfl, rfl⟩

/-- Keys ahead of place m: no two neighbours of one node. -/
def nodeAt (ks : List (Int × Int)) (i : Nat) : Bool := decide (i = 0) || !decide ((kAt ks (i - 1)).1 = (kAt ks i).1)
def nodesTo (ks : List (Int × Int)) (m : Nat) : Bool := (List.range m).all (nodeAt ks)
theorem nodesTo_succ (ks : List (Int × Int)) (m : Nat) : nodesTo ks (m + 1) = (nodesTo ks m && nodeAt ks m) := by simp [nodesTo, List.range_succ]
theorem nodesTo_false {ks : List (Int × Int)} {m n : Nat} (h : nodeAt ks m = false) (hn : m < n) : nodesTo ks n = false := by
  simp only [nodesTo, List.all_eq_false]
  exact ⟨m, List.mem_range.2 hn, by simp [h]⟩
def headB (id ep : Int) (ks : List (Int × Int)) : Bool := decide (1 ≤ id ∧ id ≤ 20) && (decide (0 ≤ ep ∧ ep ≤ 1000000000) && knownB ks)
def memberB (id ep : Int) (ks : List (Int × Int)) : Bool := headB id ep ks && nodesTo ks ks.length

/-- Keys, as an argument: none, or a row. -/
def KRow (a : Option Addr) (ks : List (Int × Int)) (w : World) : Prop := ks = [] ∨ ∃ g, a = some ⟨g, 0, none⟩ ∧ g < w.heap.size ∧ KSeg g 0 ks w
theorem Keys.row {B : Nat} {v : Value} {ks : List (Int × Int)} {w : World} (h : Keys B v ks w) : ∃ a c, v = .slice a ks.length c ∧ ks.length ≤ maxLen ∧ KRow a ks w := by
  rcases h.form with ⟨rfl, rfl⟩ | ⟨g, cap, rfl, _, g1, h1, h2, h3, _⟩
  · exact ⟨_, _, rfl, Nat.zero_le _, .inl rfl⟩
  · exact ⟨_, _, rfl, by omega, .inr ⟨g, rfl, g1, h3⟩⟩
end Go.Proofs.Ytjilbfohfgalkaa
/- Lists of numbers: what the exact laws' helpers do that lay them anew: toInt64S, szInt64S. -/
namespace Go.Proofs.Ytjilbfohfgalkaa
open Go.RowKit

theorem infoI : (Try.prog.info? 2).map (fun i => (i.zero, i.size, i.bytes)) = some (some (.int .i64 0), 1, 8) := by kernel_rfl
/-- Numbers lie in block b from offset 'off' on. -/
def ISeg (b off : Nat) (xs : List Int) (W : World) : Prop := ∀ i (hi : i < xs.length), W.cell? ⟨b, off + i, none⟩ = some (.int .i64 xs[i])
theorem ISeg.kept {b off : Nat} {xs : List Int} {W W' : World} (h : ISeg b off xs W) (hb : W'.heap[b]? = W.heap[b]?) : ISeg b off xs W' := fun i hi =>
  (World.cell?_of_block (a := ⟨b, off + i, none⟩) hb).trans (h i hi)
def IRow (a : Option Addr) (xs : List Int) (w : World) : Prop := xs = [] ∨ ∃ g, a = some ⟨g, 0, none⟩ ∧ g < w.heap.size ∧ ISeg g 0 xs w
theorem Ints.row {B : Nat} {v : Value} {xs : List Int} {w : World} (h : Ints B v xs w) : ∃ a c, v = .slice a xs.length c ∧ xs.length ≤ maxLen ∧ IRow a xs w := by
  rcases h.form with ⟨rfl, rfl⟩ | ⟨g, cap, rfl, _, g1, h1, h2, h3⟩
  · exact ⟨_, _, rfl, Nat.zero_le _, .inl rfl⟩
  · exact ⟨_, _, rfl, by omega, .inr ⟨g, rfl, g1, fun i hi => by rw [Nat.zero_add]; exact (h3 i hi).1⟩⟩
theorem Seats.row {B : Nat} {v : Value} {ks : List (Int × Int)} {w : World} (h : Seats B v ks w) : ∃ a c, v = .slice a ks.length c ∧ ks.length ≤ maxLen ∧ KRow a ks w := by
  rcases h.form with ⟨rfl, rfl⟩ | ⟨g, cap, rfl, _, g1, h1, h2, h3, _⟩
  · exact ⟨_, _, rfl, Nat.zero_le _, .inl rfl⟩
  · exact ⟨_, _, rfl, by omega, .inr ⟨g, rfl, g1, h3⟩⟩
theorem Ints.since {B : Nat} {v : Value} {xs : List Int} {W W' : World} (h : Ints B v xs W) (hb : Below W.heap.size W W') : Ints B v xs W' := h.below hb (fun k e => (h.lt k e).2)
theorem Seats.since {B : Nat} {v : Value} {ks : List (Int × Int)} {W W' : World} (h : Seats B v ks W) (hb : Below W.heap.size W W') : Seats B v ks W' := h.below hb (fun k e => (h.lt k e).2)

def partInts (xs : List Int) (i : Nat) : List Int := xs.take i ++ List.replicate (xs.length - i) 0
theorem partInts_length (xs : List Int) (i : Nat) (h : i ≤ xs.length) : (partInts xs i).length = xs.length := by simp [partInts]; omega
theorem partInts_set (xs : List Int) (i : Nat) (h : i < xs.length) : (partInts xs i).set i xs[i] = partInts xs (i + 1) := by
  unfold partInts
  have e : xs.length - i = (xs.length - (i + 1)) + 1 := by omega
  have hl : (xs.take i).length = i := by simp; omega
  rw [e, List.replicate_succ, List.take_succ_eq_append_getElem h, List.append_assoc, List.set_append_right _ _ (by omega), hl, Nat.sub_self, List.set_cons_zero]
  rfl
theorem Ints.stored {B g cap : Nat} {l : List Int} {n : Nat} {W : World} (hn : l.length = n) (h : Ints B (.slice (some ⟨g, 0, none⟩) n cap) l W) (i : Nat) (_ : i < l.length) (a : Int) :
    Ints B (.slice (some ⟨g, 0, none⟩) n cap) (l.set i a) (W.setCell ⟨g, i, none⟩ (.int .i64 a)) ∧ W.grownBy (W.setCell ⟨g, i, none⟩ (.int .i64 a)) (some g) := by
  subst hn
  have h1 := World.ownsRow.stored h i (.int .i64 a)
  refine ⟨?_, h1.2⟩
  unfold Ints
  rw [List.length_set, List.map_set]
  exact h1.1
theorem made_one (c : Value) (n : Nat) : (madeCells #[c] n).toList = List.replicate n c := by
  apply List.ext_getElem?
  intro j
  by_cases hj : j < n
  · simp [madeCells, hj, Nat.mod_one]
  · simp [madeCells, hj]

/-- A list of numbers, as it came in. -/
def InInts (v : Value) (xs : List Int) (W : World) : Prop :=
  (∃ a c, v = .slice a 0 c ∧ xs = []) ∨ ∃ b off c, v = .slice (some ⟨b, off, none⟩) xs.length c ∧ b < W.heap.size ∧ xs.length ≤ maxLen ∧ ISeg b off xs W
theorem InInts.below {v : Value} {xs : List Int} {W W' : World} {C : Nat} (h : InInts v xs W) (hb : Below C W W') (hC : W.heap.size ≤ C) : InInts v xs W' := by
  rcases h with h | ⟨b, off, c, e, hl, hm, hs⟩
  · exact .inl h
  · exact .inr ⟨b, off, c, e, by have := hb.size; omega, hm, hs.kept (hb.block b (by omega))⟩
theorem InInts.len {v : Value} {xs : List Int} {W : World} (h : InInts v xs W) : ∃ a c, v = .slice a xs.length c ∧ xs.length ≤ maxLen := by
  rcases h with ⟨a, c, rfl, rfl⟩ | ⟨b, off, c, rfl, _, hm, _⟩
  · exact ⟨_, _, rfl, Nat.zero_le _⟩
  · exact ⟨_, _, rfl, hm⟩

end Go.Proofs.Ytjilbfohfgalkaa
/- When a server is right; versOk and seatsOk of the program. -/
namespace Go.Proofs.Ytjilbfohfgalkaa
open Go.RowKit

def vAt (xs : List Int) (i : Nat) : Int := xs.getD i 0
theorem vAt_get (xs : List Int) (i : Nat) (h : i < xs.length) : vAt xs i = xs[i] := by simp [vAt, h]
def verAt (xs : List Int) (i : Nat) : Bool := decide (1 ≤ vAt xs i ∧ vAt xs i ≤ 1000000000)
def versTo (xs : List Int) (m : Nat) : Bool := (List.range m).all (verAt xs)
theorem versTo_succ (xs : List Int) (m : Nat) : versTo xs (m + 1) = (versTo xs m && verAt xs m) := by simp [versTo, List.range_succ]
theorem versTo_false {xs : List Int} {m n : Nat} (h : verAt xs m = false) (hn : m < n) : versTo xs n = false := by
  simp only [versTo, List.all_eq_false]
  exact ⟨m, List.mem_range.2 hn, by simp [h]⟩
def versB (xs : List Int) : Bool := decide (xs.length = 15) && versTo xs xs.length

/-- Has one of the first m seats the leaf l? -/
def takenB (ss : List (Int × Int)) (m : Nat) (l : Int) : Bool := (List.range m).any fun k => decide ((kAt ss k).2 = l)
theorem takenB_succ (ss : List (Int × Int)) (m : Nat) (l : Int) : takenB ss (m + 1) l = (takenB ss m l || decide ((kAt ss m).2 = l)) := by simp [takenB, List.range_succ]
theorem takenB_true {ss : List (Int × Int)} {k m : Nat} {l : Int} (h : (kAt ss k).2 = l) (hk : k < m) : takenB ss m l = true := by
  simp only [takenB, List.any_eq_true]
  exact ⟨k, List.mem_range.2 hk, by simp [h]⟩
def seatAt (ss : List (Int × Int)) (i : Nat) : Bool :=
  decide (1 ≤ (kAt ss i).1 ∧ (kAt ss i).1 ≤ 20) && (decide (8 ≤ (kAt ss i).2 ∧ (kAt ss i).2 ≤ 15) && ((decide (i = 0) || decide ((kAt ss (i - 1)).1 < (kAt ss i).1)) && !takenB ss i (kAt ss i).2))
def seatsTo (ss : List (Int × Int)) (m : Nat) : Bool := (List.range m).all (seatAt ss)
theorem seatsTo_succ (ss : List (Int × Int)) (m : Nat) : seatsTo ss (m + 1) = (seatsTo ss m && seatAt ss m) := by simp [seatsTo, List.range_succ]
theorem seatsTo_false {ss : List (Int × Int)} {m n : Nat} (h : seatAt ss m = false) (hn : m < n) : seatsTo ss n = false := by
  simp only [seatsTo, List.all_eq_false]
  exact ⟨m, List.mem_range.2 hn, by simp [h]⟩
def seatsB (ss : List (Int × Int)) : Bool := decide (ss.length ≤ 8) && seatsTo ss ss.length
def serverB (ep : Int) (vs : List Int) (ss : List (Int × Int)) : Bool := decide (0 ≤ ep ∧ ep ≤ 1000000000) && (versB vs && seatsB ss)

theorem isLeaf_any (n : Int) (w : World) :
    Calls Try.prog 78 #[.int .i64 n] w fun e w' => e = .returned (.bool (decide (8 ≤ n ∧ n ≤ 15))) ∧ w' = w := by
  by_cases h1 : 8 ≤ n
  · by_cases h2 : n ≤ 15
    · rw [decide_eq_true ⟨h1, h2⟩]
      go_enter Try.func78, Try.ntmps78
      go_wp2
      go_ret
      exact ⟨by simp, rfl⟩
    · rw [decide_eq_false (fun h => h2 h.2)]
      go_enter Try.func78, Try.ntmps78
      go_wp2
      go_ret
      exact ⟨by simp, rfl⟩
  · rw [decide_eq_false (fun h => h1 h.1)]
    go_enter Try.func78, Try.ntmps78
    go_wp2
    go_ret
    exact ⟨rfl, rfl⟩

set_option maxHeartbeats 1000000 in
theorem versOk_any {B : Nat} {v : Value} {xs : List Int} {w : World} (h : Ints B v xs w) :
    Calls Try.prog 60 #[v] w fun e w' => e = .returned (.bool (versB xs)) ∧ w' = w := by
  obtain ⟨a, c, rfl, hm, hrow⟩ := h.row
  clear h
  by_cases hl : xs.length = 15
  · have hne : ((xs.length : Int) == 15) = true := by rw [hl]; rfl
    obtain ⟨g, rfl, hg, hseg⟩ : ∃ g, a = some ⟨g, 0, none⟩ ∧ g < w.heap.size ∧ ISeg g 0 xs w := by
      rcases hrow with e | e
      · rw [e] at hl; simp at hl
      · exact e
    have HV : Hid (versB xs = versTo xs 15) := by show versB xs = _; simp [versB, hl]
    have HS : Hid (ISeg g 0 xs w) := hseg
    clear hrow hseg hm
    rw [hl] at hne ⊢
    go_enter Try.func60, Try.ntmps60
    go_wp2
    go_loopw [10] (fun i wr => ∃ k : Nat, k ≤ 15 ∧ i = .int .i64 (k : Int) ∧ versTo xs k = true ∧ wr = w) (fun i _ => 15 - (intOf i).toNat)
    case atStart => exact ⟨0, by omega, rfl, rfl, rfl⟩
    case round =>
      obtain ⟨k, hk, rfl, hpre, rfl⟩ := hrel
      have HP : Hid (versTo xs k = true) := hpre
      clear hpre
      by_cases hlt : k < 15
      · have hlk : k < xs.length := by omega
        have c1 := HS.out k hlk
        rw [Nat.zero_add] at c1
        have HA : Hid (verAt xs k = decide (1 ≤ xs[k] ∧ xs[k] ≤ 1000000000)) := by show verAt xs k = _; unfold verAt; rw [vAt_get xs k hlk]
        generalize xs[k] = x at c1 HA
        by_cases h1 : 1 ≤ x
        · by_cases h2 : x ≤ 1000000000
          · have HF : Hid (versTo xs (k + 1) = true) := by show versTo xs (k + 1) = true; rw [versTo_succ, HP.out, HA.out]; simp [h1, h2]
            go_wp2
            go_roundw
            case rel => exact ⟨k + 1, by omega, by go_num, HF.out, by first | trivial | rfl⟩
            case measure => simp [intOf]; omega
          · have HF : Hid (versTo xs 15 = false) := versTo_false (m := k) (by rw [HA.out]; simp; omega) hlt
            go_wp2
            go_ret
            exact ⟨by rw [HV.out, HF.out]; rfl, rfl⟩
        · have HF : Hid (versTo xs 15 = false) := versTo_false (m := k) (by rw [HA.out]; simp; omega) hlt
          go_wp2
          go_ret
          exact ⟨by rw [HV.out, HF.out]; rfl, rfl⟩
      · have : k = 15 := by omega
        subst this
        go_wp2
        go_ret
        exact ⟨by rw [HV.out, HP.out]; rfl, rfl⟩
  · have hne : ((xs.length : Int) == 15) = false := by simp; omega
    have HV : Hid (versB xs = false) := by show versB xs = _; simp [versB, hl]
    generalize xs.length = n at *
    go_enter Try.func60, Try.ntmps60
    go_wp2
    go_ret
    exact ⟨by rw [HV.out]; rfl, rfl⟩
end Go.Proofs.Ytjilbfohfgalkaa
