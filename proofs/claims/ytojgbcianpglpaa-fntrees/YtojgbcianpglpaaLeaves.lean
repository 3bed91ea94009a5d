
/- Contracts of LeavesOf of the program: the leaves whose paths a node is on, in new memory. -/
import Derived.Test.YtojgbcianpglpaaOnPath
namespace Go.Proofs.Ytojgbcianpglpaa
open Go.RowKit

def leavesTo (x : Int) (k : Nat) : List Int := ((List.range k).filter fun (j : Nat) => decide (x ∈ path (8 + (j : Int)))).map fun (j : Nat) => 8 + (j : Int)
def leaves (x : Int) : List Int := leavesTo x 8
theorem leavesTo_le (x : Int) (k : Nat) : (leavesTo x k).length ≤ k := by
  unfold leavesTo
  have := List.length_filter_le (fun (j : Nat) => decide (x ∈ path (8 + (j : Int)))) (List.range k)
  simp at this ⊢
  exact this
theorem leavesTo_hit (x : Int) (k : Nat) (h : x ∈ path (8 + (k : Int))) : leavesTo x (k + 1) = leavesTo x k ++ [8 + (k : Int)] := by simp [leavesTo, List.range_succ, h]
theorem leavesTo_miss (x : Int) (k : Nat) (h : ¬ x ∈ path (8 + (k : Int))) : leavesTo x (k + 1) = leavesTo x k := by simp [leavesTo, List.range_succ, h]

set_option maxRecDepth 100000 in
set_option maxHeartbeats 1000000 in
theorem leavesOf_any (x : Int) (w : World) :
    Calls Try.prog 13 #[.int .i64 x] w fun e w' => ∃ v, e = .returned v ∧ Ints w.heap.size v (leaves x) w' ∧ Below w.heap.size w w' := by
  obtain ⟨i0, hi, hz0, hz1, hz2⟩ := info_parts info64
  go_enter Try.func13, Try.ntmps13
  go_wp2_with fail
  refine (newTree_any _).mono ?_
  rintro e w1 ⟨rfl, rfl⟩
  go_wp2
  have hT0 := heap_alloc_new ((w.alloc treeObj).alloc treeObj) treeObj
  have hB0 : Below w.heap.size w (((w.alloc treeObj).alloc treeObj).alloc treeObj) := (((Below.refl _ _).alloc (Nat.le_refl _) _).alloc (by simp) _).alloc (by simp; omega) _
  have hs0 : (((w.alloc treeObj).alloc treeObj).alloc treeObj).heap.size = w.heap.size + 3 := by simp
  simp only [World.size_alloc] at hT0
  generalize ((w.alloc treeObj).alloc treeObj).alloc treeObj = W0 at hT0 hB0 hs0 ⊢
  go_loopw [4, 5] (fun v i wr => ∃ k : Nat, k ≤ 8 ∧ i = .int .i64 (8 + (k : Int)) ∧ Ints W0.heap.size v (leavesTo x k) wr ∧ Below W0.heap.size W0 wr) (fun _ i _ => 16 - (intOf i).toNat)
  case atStart => exact ⟨0, Nat.zero_le _, rfl, World.ownsRow_nil _ _ _ _, Below.refl _ _⟩
  case round =>
    obtain ⟨k, hk, rfl, hI, hB⟩ := hrel
    by_cases hlt : k < 8
    · have hle := leavesTo_le x k
      have hsz := hB.size
      have hT : wr.heap[w.heap.size + 1 + 1]? = some treeObj := (hB.block _ (by omega)).trans hT0
      by_cases hp : x ∈ path (8 + (k : Int))
      · have hd : decide (x ∈ path (8 + (k : Int))) = true := decide_eq_true hp
        have HE : Hid _ := leavesTo_hit x k hp
        have HP : Hid _ := hp
        clear hp
        go_wp2_with (first | (refine wpList_load_row rfl 45 _ rfl (w.heap.size + 1 + 1) rfl 45 treeCells (0, 0) _ hT Try.underlying45 rfl (by kernel_rfl) ?_) | fail)
        refine (isOnPath_any _ _ _).mono ?_
        rintro e w2 ⟨rfl, hb2⟩
        rw [hd]
        have hI2 := hI.below hb2 (fun k e => (hI.lt k e).2)
        have hB2 := hB.trans (hb2.mono hsz)
        have hsz2 := hB2.size
        clear hT hI hB hd
        go_wp2_with (at_builtin; refine wpList_append_own _ rfl _ _ 25 rfl W0.heap.size 2 i0 (.int .i64 0) 1 8 Try.underlying25 hi hz0 hz1 hz2 rfl (by decide) _ _ _ rfl (World.ownsRow.alloc hI2 _) ⟨w2.heap.size, 0, none⟩ 1 1 [.int .i64 (8 + (k : Int))] rfl rfl (cell_one_new _ _ _) (by simp [Value.oneCell']) (by unfold maxLen; omega) (by omega) (by simp; omega) ?_; intro v' w3 hown' hgrow _)
        go_roundw
        case rel => exact ⟨k + 1, by omega, by go_num, by unfold Ints; rw [HE.out]; simpa using hown', app_below hI2 hB2 hgrow⟩
        case measure => simp [intOf]; omega
      · have hd : decide (x ∈ path (8 + (k : Int))) = false := decide_eq_false hp
        have HE : Hid _ := leavesTo_miss x k hp
        clear hp
        go_wp2_with (first | (refine wpList_load_row rfl 45 _ rfl (w.heap.size + 1 + 1) rfl 45 treeCells (0, 0) _ hT Try.underlying45 rfl (by kernel_rfl) ?_) | fail)
        refine (isOnPath_any _ _ _).mono ?_
        rintro e w2 ⟨rfl, hb2⟩
        rw [hd]
        have hI2 := hI.below hb2 (fun k e => (hI.lt k e).2)
        have hB2 := hB.trans (hb2.mono hsz)
        clear hT hI hB hd
        go_wp2
        go_roundw
        case rel => exact ⟨k + 1, by omega, by go_num, by rw [HE.out]; exact hI2, hB2⟩
        case measure => simp [intOf]; omega
    · have : k = 8 := by omega
      subst this
      go_wp2
      go_ret
      exact ⟨_, rfl, hI.mono (by omega), hB0.trans (hB.mono (by omega))⟩
end Go.Proofs.Ytojgbcianpglpaa
