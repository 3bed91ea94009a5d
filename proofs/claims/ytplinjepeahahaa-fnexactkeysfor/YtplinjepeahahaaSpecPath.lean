
/- The contract of PathOf of the model: the way from a node to the root, in new memory. -/
import Derived.Test.YtplinjepeahahaaPath
namespace Go.Proofs.Ytplinjepeahahaa
open Go.RowKit

set_option maxRecDepth 100000 in
set_option maxHeartbeats 400000 in
theorem specPathOf_any (x : Int) (w : World) :
    Calls Try.prog 65 #[.int .i64 x] w fun e w' => ∃ v, e = .returned v ∧ Ints w.heap.size v (path x) w' ∧ Below w.heap.size w w' := by
  obtain ⟨i0, hi, hz0, hz1, hz2⟩ := info_parts info64
  have hI0 : Ints w.heap.size (.slice (some ⟨w.heap.size, 0, none⟩) 0 0) [] (w.alloc (.cells #[] 2)) := World.ownsRow_lit w #[] 0 (Nat.le_refl _) (by decide) rfl
  by_cases hx : 1 ≤ x ∧ x ≤ 15
  · have hd : decide (1 ≤ x ∧ x ≤ 15) = true := decide_eq_true hx
    have hm0 : Hid (x = ((x.toNat : Nat) : Int)) := show x = _ by omega
    have hp : path x = pathF 5 x.toNat := by unfold path; rw [if_pos hx]
    have hlen := path_len x
    rw [hp] at hlen ⊢
    go_enter Try.func65, Try.ntmps65
    go_wp2_with fail
    refine (l1In_any _ _ _ _).mono ?_
    rintro e w' ⟨rfl, rfl⟩
    rw [hd]
    go_wp2
    go_loopw [0, 3] (fun p v wr => ∃ (pre : List Int) (m : Nat), p = .int .i64 (m : Int) ∧ m ≤ 15 ∧ pathF 5 x.toNat = pre ++ pathF 5 m ∧ Ints w.heap.size v pre wr ∧ Below w.heap.size w wr ∧ w.heap.size ≤ wr.heap.size)
      (fun p _ _ => (intOf p).toNat)
    case atStart => exact ⟨[], x.toNat, by rw [← hm0.out], by omega, rfl, hI0, (Below.refl _ _).alloc (Nat.le_refl _) _, by simp⟩
    case round =>
      obtain ⟨pre, m, rfl, hm, hpre, hI, hB, hsz⟩ := hrel
      by_cases hz : m = 0
      · subst hz
        have e : pre = pathF 5 x.toNat := by rw [hpre]; simp [pathF]
        go_wp2
        go_ret
        exact ⟨_, rfl, by rw [← e]; exact hI, hB⟩
      · have hst := pathF_step m (by omega) hm
        have hpl : pre.length < 4 := by rw [hpre, hst] at hlen; simp at hlen; omega
        have hge : (1 : Int) ≤ (m : Int) := by omega
        have he : pathF 5 x.toNat = pre ++ [(m : Int)] ++ pathF 5 (m / 2) := by rw [hpre, hst]; simp
        have HE : Hid _ := he
        clear he
        clear hpre hst hp hlen
        go_wp2_with (at_builtin; refine wpList_append_own _ rfl _ _ 22 rfl w.heap.size 2 i0 (.int .i64 0) 1 8 Try.underlying22 hi hz0 hz1 hz2 rfl (by decide) _ _ _ rfl (World.ownsRow.alloc hI _) ⟨wr.heap.size, 0, none⟩ 1 1 [.int .i64 (m : Int)] rfl rfl (cell_one_new _ _ _) (by simp [Value.oneCell']) (by unfold maxLen; omega) (by omega) (by simp; omega) ?_; intro v' w2 hown' hgrow _)
        go_roundw
        case rel => exact ⟨pre ++ [(m : Int)], m / 2, by go_num, by omega, HE.out, by unfold Ints; simpa using hown', app_below hI hB hgrow, by have := hgrow.size; simp at this; omega⟩
        case measure => simp [intOf]; omega
  · have hd : decide (1 ≤ x ∧ x ≤ 15) = false := decide_eq_false hx
    have hp : path x = [] := by unfold path; rw [if_neg hx]
    rw [hp]
    go_enter Try.func65, Try.ntmps65
    go_wp2_with fail
    refine (l1In_any _ _ _ _).mono ?_
    rintro e w' ⟨rfl, rfl⟩
    rw [hd]
    go_wp2
    go_ret
    exact ⟨_, rfl, hI0, (Below.refl _ _).alloc (Nat.le_refl _) _⟩
end Go.Proofs.Ytplinjepeahahaa
