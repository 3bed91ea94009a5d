
/- Contracts of the walk up the tree, by a range over a function: PathOf and isOnPath of the program, PathOf of the model. -/
import Derived.Test.YtplinjepeahahaaTree
import Derived.Test.YtplinjepeahahaaOwn
import Derived.RangeFuncNested
import Derived.RangeFuncBound
import Derived.RangeFuncCalls
import Derived.RangeFuncLeaves
import Derived.RangeFuncBox
import Derived.Shelf.Abstract
import Derived.Shelf.RegionOpen
import Derived.OwnWalkIn
import Derived.TacticsInMore
import Derived.LoopNIn
import Derived.LoopIn
namespace Go.Proofs.Ytplinjepeahahaa
open Go.RowKit Go.Shelf
attribute [local go_sem] Oper.semAt_some

/-- The way from m to the root; none from 0 on. -/
def pathF : Nat → Nat → List Int
  | 0, _ => []
  | f + 1, m => if m = 0 then [] else (m : Int) :: pathF f (m / 2)
def path (n : Int) : List Int := if 1 ≤ n ∧ n ≤ 15 then pathF 5 n.toNat else []
theorem pathF_step (m : Nat) (h0 : 0 < m) (h1 : m ≤ 15) : pathF 5 m = (m : Int) :: pathF 5 (m / 2) := by
  have : m = 1 ∨ m = 2 ∨ m = 3 ∨ m = 4 ∨ m = 5 ∨ m = 6 ∨ m = 7 ∨ m = 8 ∨ m = 9 ∨ m = 10 ∨ m = 11 ∨ m = 12 ∨ m = 13 ∨ m = 14 ∨ m = 15 := by omega
  rcases this with rfl | rfl | rfl | rfl | rfl | rfl | rfl | rfl | rfl | rfl | rfl | rfl | rfl | rfl | rfl <;> decide
theorem pathF_len (m : Nat) (h1 : m ≤ 15) : (pathF 5 m).length ≤ 4 := by
  have : m = 0 ∨ m = 1 ∨ m = 2 ∨ m = 3 ∨ m = 4 ∨ m = 5 ∨ m = 6 ∨ m = 7 ∨ m = 8 ∨ m = 9 ∨ m = 10 ∨ m = 11 ∨ m = 12 ∨ m = 13 ∨ m = 14 ∨ m = 15 := by omega
  rcases this with rfl | rfl | rfl | rfl | rfl | rfl | rfl | rfl | rfl | rfl | rfl | rfl | rfl | rfl | rfl | rfl <;> decide
theorem path_len (n : Int) : (path n).length ≤ 4 := by
  unfold path
  split
  · exact pathF_len _ (by omega)
  · simp
theorem par_half (m : Nat) (h0 : 0 < m) : par m = ((m / 2 : Nat) : Int) := by
  unfold par
  split
  · obtain rfl : m = 1 := by omega
    rfl
  · omega

theorem tree_cell {W : World} {b : Nat} (h : W.heap[b]? = some treeObj) (m : Nat) (hm : m < 16) : W.cell? ⟨b, m, none⟩ = some (.int .i64 (par m)) := by
  have : m = 0 ∨ m = 1 ∨ m = 2 ∨ m = 3 ∨ m = 4 ∨ m = 5 ∨ m = 6 ∨ m = 7 ∨ m = 8 ∨ m = 9 ∨ m = 10 ∨ m = 11 ∨ m = 12 ∨ m = 13 ∨ m = 14 ∨ m = 15 := by omega
  rcases this with rfl | rfl | rfl | rfl | rfl | rfl | rfl | rfl | rfl | rfl | rfl | rfl | rfl | rfl | rfl | rfl <;> simp [World.cell?, h, par]

/-- What the iterator reads: the node's box and the tree's. -/
def KpT (bn bt : Nat) (A B : World) : Prop := B.heap[bn]? = A.heap[bn]? ∧ B.heap[bt]? = A.heap[bt]?
theorem KpT.trans {bn bt : Nat} {A B C : World} (h : KpT bn bt A B) (k : KpT bn bt B C) : KpT bn bt A C := ⟨k.1.trans h.1, k.2.trans h.2⟩
theorem KpT.book {bn bt : Nat} {w : World} (hn : bn < w.heap.size) (ht : bt < w.heap.size) (W : World) (l : Nat) (o o' : Obj) (hl : w.heap.size ≤ l) (h : W.heap[l]? = some o) (_ : o.isCells = false) (_ : o.isWalk = false) : KpT bn bt W (W.putObj l o') := by
  have hW := (Array.getElem?_eq_some_iff.1 h).1
  have hg := grownBy_putObj' W l o'
  exact ⟨hg.block bn (by omega) (by simp; omega), hg.block bt (by omega) (by simp; omega)⟩

set_option maxHeartbeats 1000000 in
theorem up_any (n : Int) (w : World) :
    Calls Try.prog 67 #[.agg treeCells, .int .i64 n] w fun e w' => e = .returned (.func (.func 75) #[] #[.pointer (some ⟨w.heap.size + 1, 0, none⟩), .pointer (some ⟨w.heap.size, 0, none⟩)]) ∧ w' = (w.alloc treeObj).alloc (.cells #[.int .i64 n] 2) := by
  have hmf : ∀ (fn : Fn) (first cap : Array Value) (w : World), (Instr.makeFunc fn first cap).run Try.prog w = .ok (.func fn first cap) w := fun _ _ _ _ => rfl
  go_enter Try.func67, Try.ntmps67
  go_wp2
  go_ret
  exact ⟨rfl, rfl⟩

set_option maxRecDepth 100000 in
set_option maxHeartbeats 1000000 in
theorem up1_in (n : Nat) (hn : 2 ≤ n) (l bn bt : Nat) (x : Int) (J Jx : List Int → World → Prop)
    (hY : ∀ pre y W, J pre W → pre.length < (path x).length → YieldAt Fence.wide (n - 1) Try.prog l #[.int .i64 y] W fun e W' =>
      (e = .returned (.bool true) ∧ J (pre ++ [y]) W' ∧ KpT bn bt W W') ∨ (e = .returned (.bool false) ∧ Jx (pre ++ [y]) W'))
    (W : World) (hbn : W.heap[bn]? = some (.cells #[.int .i64 x] 2)) (hbt : W.heap[bt]? = some treeObj) (h0 : J [] W) :
    CallsIn Fence.wide n Try.prog 75 #[.func (.yield l) #[] #[], .pointer (some ⟨bn, 0, none⟩), .pointer (some ⟨bt, 0, none⟩)] W fun e W' => (∃ v, e = .returned v) ∧
      ((∃ ys, ys = path x ∧ J ys W') ∨ (∃ pre, pre <+: path x ∧ Jx pre W')) := by
  have hf1 : Fence.wide.fn 75 := trivial
  have hf2 : Fence.wide.fn 49 := trivial
  have hcn : W.cell? ⟨bn, 0, none⟩ = some (.int .i64 x) := by simp [World.cell?, hbn]
  refine callsIn_of_wp Try.func75 rfl hf1 ?_ rfl
  simp only [Try.ntmps75, List.size_toArray, List.length_cons, List.length_nil, Nat.reduceAdd, Nat.reduceSub, Array.replicate_succ, Array.replicate_zero, List.push_toArray, List.append_toArray, List.nil_append, List.cons_append]
  by_cases hx : 1 ≤ x ∧ x ≤ 15
  · have hd : decide (1 ≤ x ∧ x ≤ 15) = true := decide_eq_true hx
    have hm0 : Hid (x = ((x.toNat : Nat) : Int)) := show x = _ by omega
    have hp : path x = pathF 5 x.toNat := by unfold path; rw [if_pos hx]
    rw [hp] at hY ⊢
    gi_wp2_with fail
    refine ⟨fun _ => (by omega), ?_⟩
    refine (callsIn_wide.2 (isNode_any _ _)).mono ?_
    rintro e w' ⟨rfl, rfl⟩
    rw [hd]
    gi_wp2
    gi_loopw [4] (fun p wr => ∃ (pre : List Int) (m : Nat), p = .int .i64 (m : Int) ∧ m ≤ 15 ∧ pathF 5 x.toNat = pre ++ pathF 5 m ∧ wr.heap[bt]? = some treeObj ∧ J pre wr)
      (fun p _ => (intOf p).toNat)
    case atStart => exact ⟨[], x.toNat, by rw [← hm0.out], by omega, rfl, hbt, h0⟩
    case round =>
      obtain ⟨pre, m, rfl, hm, hpre, hT, hJ⟩ := hrel
      by_cases hz : m = 0
      · subst hz
        gi_wp2
        go_end0
        exact ⟨⟨_, rfl⟩, .inl ⟨pre, by rw [hpre]; simp [pathF], hJ⟩⟩
      · have hst := pathF_step m (by omega) hm
        have hz' : ((m : Int) == 0) = false := by simp; omega
        obtain ⟨fn, tmps, assign, body, hy, hR⟩ := hY pre m wr hJ (by rw [hpre, hst]; simp)
        gi_wp2
        refine ⟨fun _ => (by omega), ?_⟩
        refine hR.mono ?_
        rintro e W3 (⟨rfl, hJ3, hk3⟩ | ⟨rfl, hJx3⟩)
        · have hT3 : W3.heap[bt]? = some treeObj := hk3.2.trans hT
          have hc3 := tree_cell hT3 m (by omega)
          rw [par_half m (by omega)] at hc3
          gi_wp2
          go_roundw
          case rel => exact ⟨pre ++ [(m : Int)], m / 2, by rfl, by omega, by rw [hpre, hst]; simp, hT3, hJ3⟩
          case measure => simp [intOf]; omega
        · gi_wp2
          refine bodyPost_ret (results_none rfl _ _ _) rfl ?_
          exact ⟨⟨_, rfl⟩, .inr ⟨pre ++ [(m : Int)], ⟨pathF 5 (m / 2), by rw [hpre, hst]; simp⟩, hJx3⟩⟩
  · have hd : decide (1 ≤ x ∧ x ≤ 15) = false := decide_eq_false hx
    have hp : path x = [] := by unfold path; rw [if_neg hx]
    gi_wp2_with fail
    refine ⟨fun _ => (by omega), ?_⟩
    refine (callsIn_wide.2 (isNode_any _ _)).mono ?_
    rintro e w' ⟨rfl, rfl⟩
    rw [hd]
    gi_wp2
    refine bodyPost_ret (results_none rfl _ _ _) rfl ?_
    exact ⟨⟨_, rfl⟩, .inl ⟨[], hp.symm, h0⟩⟩

theorem up1_stops (n : Nat) (hn : 2 ≤ n) (bn bt : Nat) (x : Int) (w : World) (hbn : w.heap[bn]? = some (.cells #[.int .i64 x] 2)) (hbt : w.heap[bt]? = some treeObj) :
    SeqStopsK Fence.wide n Try.prog 75 #[.pointer (some ⟨bn, 0, none⟩), .pointer (some ⟨bt, 0, none⟩)] (fun y : Int => #[Value.int .i64 y]) (KpT bn bt) (fun ys => ys = path x) (fun pre => pre <+: path x) (path x).length w := fun l J Jx W hW _ _ hY h0 =>
  up1_in n hn l bn bt x J Jx hY W ((hW.block bn (Array.getElem?_eq_some_iff.1 hbn).1).trans hbn) ((hW.block bt (Array.getElem?_eq_some_iff.1 hbt).1).trans hbt) h0

theorem ownsRow_mono {W : World} {b b' : Nat} {e : TypeId} {s n : Nat} {v : Value} {xs : List Value} (h : W.ownsRow b e s v n xs) (hb : b' ≤ b) : W.ownsRow b' e s v n xs := by
  refine ⟨h.1, ?_⟩
  rcases h.2 with hn | ⟨g, cap, cur, e, hg, rest⟩
  · exact .inl hn
  · exact .inr ⟨g, cap, cur, e, by omega, rest⟩

/-- 'out = append(out, ..)' in a box, the rows at or beyond b1. -/
theorem boxed_appended {W w1 : World} {n₀ B b1 : Nat} {t e : TypeId} {size : Nat} {v v' : Value} {k m : Nat} {xs ys : List Value} {tmp : Obj}
    (hv : Boxed W B t v) (hte : t ≠ e) (hrow : W.ownsRow b1 e size v k xs) (hb1 : b1 ≤ W.heap.size) (hn : n₀ ≤ b1) (hB : n₀ ≤ B)
    (hown' : w1.ownsRow b1 e size v' m ys) (hgrow : (W.alloc tmp).grownBy w1 v.ownBlock) :
    Boxed w1 B t v ∧ Boxed (w1.setCell ⟨B, 0, none⟩ v') B t v' ∧ (w1.setCell ⟨B, 0, none⟩ v').ownsRow b1 e size v' m ys ∧ KeepsOthers W (w1.setCell ⟨B, 0, none⟩ v') ∧ Below n₀ W (w1.setCell ⟨B, 0, none⟩ v') ∧
      ∀ j, j < b1 → j ≠ B → (w1.setCell ⟨B, 0, none⟩ v').heap[j]? = W.heap[j]? := by
  obtain ⟨a1, a2, _, a4, a5⟩ := hv.appended hte (ownsRow_mono hrow hn) (by omega) hB (ownsRow_mono hown' hn) hgrow
  refine ⟨a1, a2, hown'.kept (grownBy_setCell' w1 B v') (.inr (a1.not_row hte hown').symm), a4, a5, fun j hj hne => ?_⟩
  rw [(grownBy_setCell' w1 B v').block j (by have := hgrow.size; simp at this; omega) (by simpa using hne)]
  rw [hgrow.block j (by simp; omega) (fun e => by have := (World.ownsRow.lt hrow j e.symm).1; omega)]
  exact Below.heap_alloc _ _ _ (by omega)
end Go.Proofs.Ytplinjepeahahaa
