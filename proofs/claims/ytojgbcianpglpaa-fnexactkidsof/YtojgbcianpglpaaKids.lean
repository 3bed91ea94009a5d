
/- Contracts of KidsOf, of the program and of the model: both answer the kids of a node, in new memory. -/
import Derived.Test.YtojgbcianpglpaaTree
import Derived.Test.YtojgbcianpglpaaOwn
namespace Go.Proofs.Ytojgbcianpglpaa
open Go.RowKit

def kids (n : Int) : List Int := if 1 ≤ n ∧ n ≤ 7 then [2 * n, 2 * n + 1] else []
def kidsTo (n : Int) (k : Nat) : List Int := ((List.range k).filter fun j => decide (par j = n)).map fun (j : Nat) => (j : Int)
theorem kidsTo_le (n : Int) (k : Nat) : (kidsTo n k).length ≤ k := by
  unfold kidsTo
  have := List.length_filter_le (fun j => decide (par j = n)) (List.range k)
  simp at this ⊢
  exact this
theorem kidsTo_hit (n : Int) (k : Nat) (h : par k = n) : kidsTo n (k + 1) = kidsTo n k ++ [(k : Int)] := by simp [kidsTo, List.range_succ, h]
theorem kidsTo_miss (n : Int) (k : Nat) (h : par k ≠ n) : kidsTo n (k + 1) = kidsTo n k := by simp [kidsTo, List.range_succ, h]
theorem kidsTo_end (n : Int) (h0 : 1 ≤ n) (h1 : n ≤ 15) : kidsTo n 16 = kids n := by
  have : n = 1 ∨ n = 2 ∨ n = 3 ∨ n = 4 ∨ n = 5 ∨ n = 6 ∨ n = 7 ∨ n = 8 ∨ n = 9 ∨ n = 10 ∨ n = 11 ∨ n = 12 ∨ n = 13 ∨ n = 14 ∨ n = 15 := by omega
  rcases this with rfl | rfl | rfl | rfl | rfl | rfl | rfl | rfl | rfl | rfl | rfl | rfl | rfl | rfl | rfl <;> decide
theorem index_tree0 (w : World) : (Instr.index 45 (.agg treeCells) (.int .i64 0)).run Try.prog w = .ok (.int .i64 0) w := by kernel_rfl
theorem index_tree1 (w : World) : (Instr.index 45 (.agg treeCells) (.int .i64 1)).run Try.prog w = .ok (.int .i64 0) w := by kernel_rfl
theorem index_tree2 (w : World) : (Instr.index 45 (.agg treeCells) (.int .i64 2)).run Try.prog w = .ok (.int .i64 1) w := by kernel_rfl
theorem index_tree3 (w : World) : (Instr.index 45 (.agg treeCells) (.int .i64 3)).run Try.prog w = .ok (.int .i64 1) w := by kernel_rfl
theorem index_tree4 (w : World) : (Instr.index 45 (.agg treeCells) (.int .i64 4)).run Try.prog w = .ok (.int .i64 2) w := by kernel_rfl
theorem index_tree5 (w : World) : (Instr.index 45 (.agg treeCells) (.int .i64 5)).run Try.prog w = .ok (.int .i64 2) w := by kernel_rfl
theorem index_tree6 (w : World) : (Instr.index 45 (.agg treeCells) (.int .i64 6)).run Try.prog w = .ok (.int .i64 3) w := by kernel_rfl
theorem index_tree7 (w : World) : (Instr.index 45 (.agg treeCells) (.int .i64 7)).run Try.prog w = .ok (.int .i64 3) w := by kernel_rfl
theorem index_tree8 (w : World) : (Instr.index 45 (.agg treeCells) (.int .i64 8)).run Try.prog w = .ok (.int .i64 4) w := by kernel_rfl
theorem index_tree9 (w : World) : (Instr.index 45 (.agg treeCells) (.int .i64 9)).run Try.prog w = .ok (.int .i64 4) w := by kernel_rfl
theorem index_tree10 (w : World) : (Instr.index 45 (.agg treeCells) (.int .i64 10)).run Try.prog w = .ok (.int .i64 5) w := by kernel_rfl
theorem index_tree11 (w : World) : (Instr.index 45 (.agg treeCells) (.int .i64 11)).run Try.prog w = .ok (.int .i64 5) w := by kernel_rfl
theorem index_tree12 (w : World) : (Instr.index 45 (.agg treeCells) (.int .i64 12)).run Try.prog w = .ok (.int .i64 6) w := by kernel_rfl
theorem index_tree13 (w : World) : (Instr.index 45 (.agg treeCells) (.int .i64 13)).run Try.prog w = .ok (.int .i64 6) w := by kernel_rfl
theorem index_tree14 (w : World) : (Instr.index 45 (.agg treeCells) (.int .i64 14)).run Try.prog w = .ok (.int .i64 7) w := by kernel_rfl
theorem index_tree15 (w : World) : (Instr.index 45 (.agg treeCells) (.int .i64 15)).run Try.prog w = .ok (.int .i64 7) w := by kernel_rfl
theorem index_tree (k : Nat) (h : k < 16) (w : World) : (Instr.index 45 (.agg treeCells) (.int .i64 (k : Int))).run Try.prog w = .ok (.int .i64 (par k)) w := by
  have : k = 0 ∨ k = 1 ∨ k = 2 ∨ k = 3 ∨ k = 4 ∨ k = 5 ∨ k = 6 ∨ k = 7 ∨ k = 8 ∨ k = 9 ∨ k = 10 ∨ k = 11 ∨ k = 12 ∨ k = 13 ∨ k = 14 ∨ k = 15 := by omega
  rcases this with rfl | rfl | rfl | rfl | rfl | rfl | rfl | rfl | rfl | rfl | rfl | rfl | rfl | rfl | rfl | rfl
  · exact index_tree0 w
  · exact index_tree1 w
  · exact index_tree2 w
  · exact index_tree3 w
  · exact index_tree4 w
  · exact index_tree5 w
  · exact index_tree6 w
  · exact index_tree7 w
  · exact index_tree8 w
  · exact index_tree9 w
  · exact index_tree10 w
  · exact index_tree11 w
  · exact index_tree12 w
  · exact index_tree13 w
  · exact index_tree14 w
  · exact index_tree15 w

set_option maxHeartbeats 400000 in
set_option maxRecDepth 100000 in
theorem kidsOf_any (n : Int) (w : World) :
    Calls Try.prog 12 #[.int .i64 n] w fun e w' => ∃ v, e = .returned v ∧ Ints w.heap.size v (kids n) w' ∧ Below w.heap.size w w' := by
  by_cases hn : 1 ≤ n ∧ n ≤ 15
  · obtain ⟨i0, hi, hz0, hz1, hz2⟩ := info_parts info64
    have hd : decide (1 ≤ n ∧ n ≤ 15) = true := decide_eq_true hn
    go_enter Try.func12, Try.ntmps12
    go_wp2_with fail
    refine (isNode_any _ _).mono ?_
    rintro e w' ⟨rfl, rfl⟩
    rw [hd]
    go_wp2_with fail
    refine (newTree_any _).mono ?_
    rintro e w1 ⟨rfl, hw1⟩
    have hb1 : Below w'.heap.size w' w1 := by rw [hw1]; exact ((Below.refl _ _).alloc (Nat.le_refl _) _).alloc (by simp) _
    clear hw1 hd
    go_wp2
    go_loopw [3, 10] (fun v i wr => ∃ k : Nat, k ≤ 16 ∧ i = .int .i64 k ∧ Ints w'.heap.size v (kidsTo n k) wr ∧ Below w'.heap.size w' wr) (fun _ i _ => 16 - (intOf i).toNat)
    case atStart => exact ⟨0, Nat.zero_le _, rfl, World.ownsRow_nil _ _ _ _, hb1⟩
    case round =>
      obtain ⟨k, hk, rfl, hI, hB⟩ := hrel
      by_cases hlt : k < 16
      · have hix := index_tree k hlt
        have hle := kidsTo_le n k
        have hsz := hB.size
        by_cases hp : par k = n
        · have hp' : (par k == n) = true := by simpa using hp
          have HE : Hid _ := kidsTo_hit n k hp
          have HP : Hid _ := hp
          clear hp
          generalize par k = pk at hix hp'
          go_wp2_with (at_builtin; refine wpList_append_own _ rfl _ _ 25 rfl w'.heap.size 2 i0 (.int .i64 0) 1 8 Try.underlying25 hi hz0 hz1 hz2 rfl (by decide) _ _ _ rfl (World.ownsRow.alloc hI _) ⟨wr.heap.size, 0, none⟩ 1 1 [.int .i64 (k : Int)] rfl rfl (cell_one_new _ _ _) (by simp [Value.oneCell']) (by unfold maxLen; omega) (by omega) (by simp; omega) ?_; intro v' w2 hown' hgrow _)
          go_roundw
          case rel => exact ⟨k + 1, by omega, by go_num, by unfold Ints; rw [HE.out]; simpa using hown', app_below hI hB hgrow⟩
          case measure => simp [intOf]; omega
        · have hp' : (par k == n) = false := by simpa using hp
          have HE : Hid _ := kidsTo_miss n k hp
          clear hp
          generalize par k = pk at hix hp'
          go_wp2
          go_roundw
          case rel => exact ⟨k + 1, by omega, by go_num, by rw [HE.out]; exact hI, hB⟩
          case measure => simp [intOf]; omega
      · have : k = 16 := by omega
        subst this
        go_wp2
        go_ret
        exact ⟨_, rfl, by rw [← kidsTo_end n hn.1 hn.2]; exact hI, hB⟩
  · have hd : decide (1 ≤ n ∧ n ≤ 15) = false := decide_eq_false hn
    have hk : kids n = [] := by unfold kids; rw [if_neg (by omega)]
    rw [hk]
    go_enter Try.func12, Try.ntmps12
    go_wp2_with fail
    refine (isNode_any _ _).mono ?_
    rintro e w' ⟨rfl, rfl⟩
    rw [hd]
    go_wp2
    go_ret
    exact ⟨_, rfl, World.ownsRow_nil _ _ _ _, Below.refl _ _⟩

theorem specKidsOf_any (n : Int) (w : World) :
    Calls Try.prog 16 #[.int .i64 n] w fun e w' => ∃ v, e = .returned v ∧ Ints w.heap.size v (kids n) w' ∧ Below w.heap.size w w' := by
  by_cases hn : 1 ≤ n ∧ n ≤ 7
  · have hd : decide (1 ≤ n ∧ n ≤ 7) = true := decide_eq_true hn
    have hk : kids n = [2 * n, 2 * n + 1] := by unfold kids; rw [if_pos hn]
    rw [hk]
    obtain ⟨h1, h2⟩ := hn
    go_enter Try.func16, Try.ntmps16
    go_wp2_with fail
    refine (l1In_any _ _ _ _).mono ?_
    rintro e w' ⟨rfl, rfl⟩
    rw [hd]
    go_wp2
    go_ret
    exact ⟨_, rfl, World.ownsRow_lit w' #[.int .i64 (2 * n), .int .i64 (2 * n + 1)] 2 (Nat.le_refl _) (by decide) rfl, (Below.refl _ _).alloc (Nat.le_refl _) _⟩
  · have hd : decide (1 ≤ n ∧ n ≤ 7) = false := decide_eq_false hn
    have hk : kids n = [] := by unfold kids; rw [if_neg hn]
    rw [hk]
    go_enter Try.func16, Try.ntmps16
    go_wp2_with fail
    refine (l1In_any _ _ _ _).mono ?_
    rintro e w' ⟨rfl, rfl⟩
    rw [hd]
    go_wp2
    go_ret
    exact ⟨_, rfl, World.ownsRow_lit w' #[] 0 (Nat.le_refl _) (by decide) rfl, (Below.refl _ _).alloc (Nat.le_refl _) _⟩
end Go.Proofs.Ytojgbcianpglpaa
