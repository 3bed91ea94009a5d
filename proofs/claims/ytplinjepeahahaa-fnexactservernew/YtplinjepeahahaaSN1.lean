
/- A number fifteen times: math/bits.Mul and slices.Repeat where ServerNew calls them. -/
import Derived.Test.YtplinjepeahahaaInts2
import Derived.Laws.CopyOwn
import Derived.BigRegion
import Derived.RegionTactic
import Derived.ChangeAlike
namespace Go.Proofs.Ytplinjepeahahaa
open Go.RowKit

theorem hidOf3 {p : Prop} (h : p) : Hid p := h
def rowV (n : Nat) : List Value := List.replicate n (.int .i64 1) ++ List.replicate (15 - n) (.int .i64 0)
theorem rowV_cell {W : World} {g n j : Nat} (h : W.heap[g]? = some (.cells (rowV n).toArray 2 (0, 0))) (hj : j < n) : W.cell? ⟨g, j, none⟩ = some (.int .i64 1) := by
  have : (rowV n)[j]? = some (.int .i64 1) := by
    unfold rowV
    rw [List.getElem?_append_left (by simpa using hj)]
    simp [hj]
  simp [World.cell?, h, this]
theorem ones_cells {W : World} {g n k : Nat} (h : W.heap[g]? = some (.cells (rowV n).toArray 2 (0, 0))) (hk : k ≤ n) : ∀ j v, (List.replicate k (Value.int .i64 1))[j]? = some v → W.cell? ((⟨g, 0, none⟩ : Addr).add j) = some v := by
  intro j v hv
  have hj : j < k := by
    have := (List.getElem?_eq_some_iff.1 hv).1
    simpa using this
  have e : (⟨g, 0, none⟩ : Addr).add j = ⟨g, j, none⟩ := by rw [Addr.add_mid, Nat.zero_add]
  rw [e, rowV_cell h (by omega)]
  simp [hj] at hv
  rw [hv]
theorem made_row {W : World} {B g : Nat} (h : W.ownsRow B 2 1 (.slice (some ⟨g, 0, none⟩) 15 15) 15 (madeCells (Value.int .i64 0).cells (15 * 1)).toList) : W.heap[g]? = some (.cells (rowV 0).toArray 2 (0, 0)) := by
  obtain ⟨_, h2⟩ := h
  rcases h2 with ⟨e, _⟩ | ⟨g', cap, cur, e, hb, hg, h1, h3, h4, h5⟩
  · cases e
  · injection e with e e1 e2
    injection e with e
    injection e with e
    subst e e2
    rw [hg]
    have hl : cur.toList = rowV 0 := by
      rw [List.take_of_length_le (by simp; omega)] at h5
      rw [h5]
      show (madeCells #[.int .i64 0] 15).toList = _
      rw [made_one]
      rfl
    have : cur = (rowV 0).toArray := by rw [← hl]
    rw [this]
theorem row_ints {W : World} {B g : Nat} (h : W.heap[g]? = some (.cells (rowV 15).toArray 2 (0, 0))) (hB : B ≤ g) : Ints B (.slice (some ⟨g, 0, none⟩) 15 15) (List.replicate 15 1) W :=
  ⟨rfl, .inr ⟨g, 15, (rowV 15).toArray, rfl, hB, h, by decide, by unfold maxLen; decide, rfl, rfl⟩⟩
theorem ones_one (k : Nat) : ∀ v ∈ List.replicate k (Value.int .i64 1), v.oneCell' = true := by
  intro v hv
  rw [(List.mem_replicate.1 hv).2]
  rfl

set_option maxRecDepth 100000 in
set_option maxHeartbeats 1000000 in
theorem mul64_any (w : World) : Calls Try.prog 74 #[.int .u64 1, .int .u64 15] w fun e w' => e = .returned (.tuple #[.int .u64 0, .int .u64 15]) ∧ w' = w := by
  have h1 : bits .and .u64 1 4294967295 = 1 := by decide
  have h2 : bits .and .u64 15 4294967295 = 15 := by decide
  have h3 : bits .and .u64 0 4294967295 = 0 := by decide
  go_enter Try.func74, Try.ntmps74
  go_wp2
  exact bodyPost_ret (v := .tuple #[.int .u64 0, .int .u64 15]) (by simp [results, Try.results74, go_sem]) rfl ⟨rfl, rfl⟩
set_option maxRecDepth 100000 in
theorem mul_any (w : World) : Calls Try.prog 64 #[.int .u64 1, .int .u64 15] w fun e w' => e = .returned (.tuple #[.int .u64 0, .int .u64 15]) ∧ w' = w := by
  go_enter Try.func64, Try.ntmps64
  go_wp2_with fail
  refine (mul64_any _).mono ?_
  rintro e w' ⟨rfl, hww⟩
  subst hww
  go_wp2
  exact bodyPost_ret (v := .tuple #[.int .u64 0, .int .u64 15]) (by simp [results, Try.results64, go_sem]) rfl ⟨rfl, rfl⟩

set_option maxRecDepth 100000 in
set_option maxHeartbeats 4000000 in
theorem repeat15_any (b : Nat) (w : World) (hc : w.cell? ⟨b, 0, none⟩ = some (.int .i64 1)) :
    Calls Try.prog 45 #[.slice (some ⟨b, 0, none⟩) 1 1, .int .i64 15] w fun e w' => ∃ g, e = .returned (.slice (some ⟨g, 0, none⟩) 15 15) ∧ Ints w.heap.size (.slice (some ⟨g, 0, none⟩) 15 15) (List.replicate 15 1) w' ∧ Below w.heap.size w w' := by
  obtain ⟨i0, hi, hz0, hz1, hz2⟩ := info_parts infoI
  have hszI : (Try.prog.info? 2).map (·.size) = some 1 := by rw [hi]; simp [hz1]
  go_enter Try.func45, Try.ntmps45
  go_wp2_with fail
  refine (mul_any _).mono ?_
  rintro e w1 ⟨rfl, hww⟩
  subst hww
  go_wp2_with (first | (at_make; refine wpList_make_full _ rfl _ _ 22 rfl w1.heap.size 2 i0 _ 1 Try.underlying22 hi hz0 hz1 .i64 .i64 _ _ 15 rfl rfl rfl rfl (by omega) (by unfold maxLen; omega) (Nat.le_refl _) ?_; intro w2 hown hgrow; have Hw2 := hidOf3 (made_row hown); have hBw2 : Below w1.heap.size w1 w2 := ⟨hgrow.os, hgrow.tape, hgrow.output, hgrow.size, fun k hk => hgrow.block k hk (by simp)⟩; have hc2 := cell_since hc hBw2; clear hown hgrow) | (guard_target =~ wpList _ _ _ (Oper.mk _ (Op.call { callee := Callee.builtin Builtin.copy, args := _, argTypes := _ }) _ _ _ _ :: _) _ _; refine wpList_copy_splice rfl _ _ _ _ rfl 2 Try.underlying22 hszI (some ⟨w1.heap.size, 0, none⟩) (some ⟨b, 0, none⟩) 15 15 1 1 rfl rfl w1.heap.size 0 (rowV 0) 2 Hw2.out [.int .i64 1] (by decide) (fun _ => ⟨rfl, _, rfl, (by intro j v hv; cases j with | zero => simp at hv; subst hv; simpa [Addr.add] using hc2 | succ j => simp at hv)⟩) (by decide) (ones_one 1) w1.heap.size w1 hBw2 (Nat.le_refl _) ?_; intro w3 hgw3 hBw3))
  have Hw3 := hidOf3 (show w3.heap[w1.heap.size]? = some (.cells (rowV 1).toArray 2 (0, 0)) from hgw3.out)
  clear hgw3 Hw2 hc2
  refine wp_loop_rounds 5 ?_
  rw [rounds_succ]
  go_wp2
  go_region_law (refine step_copy_splice (by rfl) _ _ _ _ (by rfl) 2 Try.underlying22 hszI (some ⟨w1.heap.size, 1, none⟩) (some ⟨w1.heap.size, 0, none⟩) 14 14 1 15 (by simp [Act.eval, Act.put]) (by simp [Act.eval, Act.put]) w1.heap.size 1 (rowV 1) 2 (by exact Hw3.out) (List.replicate 1 (.int .i64 1)) (by decide) (fun _ => ⟨rfl, _, rfl, (by exact ones_cells (show w3.drew.heap[w1.heap.size]? = _ from Hw3.out) (by omega))⟩) (by decide) (ones_one _) w1.heap.size w1 (by exact hBw3.drew) (Nat.le_refl _) ?_; intro w4 hgw4 hBw4)
  go_wp2
  have Hw4 := hidOf3 (show w4.heap[w1.heap.size]? = some (.cells (rowV 2).toArray 2 (0, 0)) from hgw4.out)
  clear hgw4 Hw3
  rw [rounds_succ]
  go_wp2
  go_region_law (refine step_copy_splice (by rfl) _ _ _ _ (by rfl) 2 Try.underlying22 hszI (some ⟨w1.heap.size, 2, none⟩) (some ⟨w1.heap.size, 0, none⟩) 13 13 2 15 (by simp [Act.eval, Act.put]) (by simp [Act.eval, Act.put]) w1.heap.size 2 (rowV 2) 2 (by exact Hw4.out) (List.replicate 2 (.int .i64 1)) (by decide) (fun _ => ⟨rfl, _, rfl, (by exact ones_cells (show w4.drew.heap[w1.heap.size]? = _ from Hw4.out) (by omega))⟩) (by decide) (ones_one _) w1.heap.size w1 (by exact hBw4.drew) (Nat.le_refl _) ?_; intro w5 hgw5 hBw5)
  go_wp2
  have Hw5 := hidOf3 (show w5.heap[w1.heap.size]? = some (.cells (rowV 4).toArray 2 (0, 0)) from hgw5.out)
  clear hgw5 Hw4
  rw [rounds_succ]
  go_wp2
  go_region_law (refine step_copy_splice (by rfl) _ _ _ _ (by rfl) 2 Try.underlying22 hszI (some ⟨w1.heap.size, 4, none⟩) (some ⟨w1.heap.size, 0, none⟩) 11 11 4 15 (by simp [Act.eval, Act.put]) (by simp [Act.eval, Act.put]) w1.heap.size 4 (rowV 4) 2 (by exact Hw5.out) (List.replicate 4 (.int .i64 1)) (by decide) (fun _ => ⟨rfl, _, rfl, (by exact ones_cells (show w5.drew.heap[w1.heap.size]? = _ from Hw5.out) (by omega))⟩) (by decide) (ones_one _) w1.heap.size w1 (by exact hBw5.drew) (Nat.le_refl _) ?_; intro w6 hgw6 hBw6)
  go_wp2
  have Hw6 := hidOf3 (show w6.heap[w1.heap.size]? = some (.cells (rowV 8).toArray 2 (0, 0)) from hgw6.out)
  clear hgw6 Hw5
  rw [rounds_succ]
  go_wp2
  go_region_law (refine step_copy_splice (by rfl) _ _ _ _ (by rfl) 2 Try.underlying22 hszI (some ⟨w1.heap.size, 8, none⟩) (some ⟨w1.heap.size, 0, none⟩) 7 7 8 15 (by simp [Act.eval, Act.put]) (by simp [Act.eval, Act.put]) w1.heap.size 8 (rowV 8) 2 (by exact Hw6.out) (List.replicate 7 (.int .i64 1)) (by decide) (fun _ => ⟨rfl, _, rfl, (by exact ones_cells (show w6.drew.heap[w1.heap.size]? = _ from Hw6.out) (by omega))⟩) (by decide) (ones_one _) w1.heap.size w1 (by exact hBw6.drew) (Nat.le_refl _) ?_; intro w7 hgw7 hBw7)
  go_wp2
  have Hw7 := hidOf3 (show w7.heap[w1.heap.size]? = some (.cells (rowV 15).toArray 2 (0, 0)) from hgw7.out)
  clear hgw7 Hw6
  rw [rounds_succ]
  go_wp2
  go_ret
  exact ⟨w1.heap.size, rfl, row_ints Hw7.out (Nat.le_refl _), hBw7⟩
end Go.Proofs.Ytplinjepeahahaa
