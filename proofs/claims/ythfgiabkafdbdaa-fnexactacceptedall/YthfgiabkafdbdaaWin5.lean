
/- A window of bits that takes a number: accept of the program. -/
import Derived.Test.YthfgiabkafdbdaaWin4
namespace Go.Proofs.Ythfgiabkafdbdaa.Wn
open Go.RowKit

theorem one_pow0 : ((2 ^ 0 : Nat) : Int) = 1 := rfl
theorem shl_val (b s : Nat) : ((b : Int) * 2 ^ min s 32 % 4294967296) = ((b * 2 ^ min s 32 % 4294967296 : Nat) : Int) := by
  simp
theorem and_val {b s : Nat} (hb : b < 4294967296) (hs : s < 32) : bits .and .u32 (b : Int) ((2 ^ s : Nat) : Int) = ((b &&& 2 ^ s : Nat) : Int) := u32_and_nat b (2 ^ s) hb (two_pow_lt hs)
theorem fresh_val {b s : Nat} (hb : b < 4294967296) (hs : s < 32) : (bits .and .u32 (b : Int) ((2 ^ s : Nat) : Int) == 0) = !b.testBit s := by
  rw [and_val hb hs, and_pow]
  have := Nat.two_pow_pos s
  by_cases h : b.testBit s = true
  · rw [if_pos h, h]
    have : ¬ ((2 ^ s : Nat) : Int) = 0 := by omega
    simpa using this
  · rw [if_neg h]
    simp [h]
theorem grown_drew (W : World) (row : Option Nat) : W.grownBy W.drew row := ⟨rfl, rfl, rfl, Nat.le_refl _, fun _ _ _ => rfl⟩

set_option maxHeartbeats 1000000 in
theorem accept_any {R b : Nat} {xs : List Int} {w : World} (top n : Int) (hR : w.heap[R]? = some (bb top b)) (h : HasBits b top xs) (hw : WinOk top xs) :
    Calls Try.prog 42 #[.pointer (some ⟨R, 0, none⟩), .int .i64 n] w fun e w' => e = .returned (.bool (accB top xs n)) ∧ w'.heap[R]? = some (bb (accTop top n) (accBits b top n)) ∧ w.grownBy w' (some R) := by
  obtain ⟨⟨p0, p1⟩, f0, f1⟩ := box2 hR
  have hr := hw.range
  have hb := h.1
  by_cases hin : 1 ≤ n ∧ n ≤ 1000000000 ∧ top - 32 < n
  case neg =>
    have HA : Hid (accB top xs n = false ∧ accTop top n = top ∧ accBits b top n = b) := ⟨by unfold accB; exact decide_eq_false (fun t => hin ⟨t.1, t.2.1, t.2.2.1⟩), if_neg hin, if_neg hin⟩
    have HE : Hid (Ending.returned (.bool false) = Ending.returned (.bool (accB top xs n)) ∧ w.heap[R]? = some (bb (accTop top n) (accBits b top n)) ∧ w.grownBy w (some R)) := by
      obtain ⟨e1, e2, e3⟩ := HA.out
      rw [e1, e2, e3]
      exact ⟨rfl, hR, World.grownBy.refl _ _⟩
    by_cases h1 : 1 ≤ n
    · by_cases h2 : n ≤ 1000000000
      · have h3 : ¬ top - 32 < n := fun h3 => hin ⟨h1, h2, h3⟩
        go_enter Try.func42, Try.ntmps42
        go_wp2
        go_ret
        exact HE.out
      · go_enter Try.func42, Try.ntmps42
        go_wp2
        go_ret
        exact HE.out
    · go_enter Try.func42, Try.ntmps42
      go_wp2
      go_ret
      exact HE.out
  have HF := hidOf (h.fresh hw hin)
  obtain ⟨i1, i2, i3⟩ := hin
  have hin : 1 ≤ n ∧ n ≤ 1000000000 ∧ top - 32 < n := ⟨i1, i2, i3⟩
  have HT := hidOf (show accTop top n = max top n from if_pos hin)
  have HU := hidOf (show accBits b top n = shl32 b top n ||| 2 ^ (max top n - n).toNat from if_pos hin)
  clear hin
  by_cases hgt : top < n
  · obtain ⟨s, hs⟩ : ∃ s : Nat, n - top = (s : Int) := ⟨(n - top).toNat, by omega⟩
    have hm : max top n = n := by omega
    have HS := hidOf (show shl32 b top n = b * 2 ^ min s 32 % 4294967296 by unfold shl32; rw [if_pos hgt, show (n - top).toNat = s by omega])
    rw [hm] at HT HU HF
    rw [show (n - n).toNat = 0 by omega] at HU HF
    clear hm
    go_enter Try.func42, Try.ntmps42
    go_wp2
    go_region
    go_wp2
    go_ret
    have hb' : b * 2 ^ min s 32 % 4294967296 < 4294967296 := Nat.mod_lt _ (by omega)
    have hF := HF.out
    have hT := HT.out
    have hU := HU.out
    rw [HS.out] at hF hU
    rw [shl_val, hT, hU]
    generalize b * 2 ^ min s 32 % 4294967296 = b' at hb' hF ⊢
    have e1 := fresh_val (b := b') (s := 0) hb' (by omega)
    have e2 := u32_or_nat b' (2 ^ 0) hb' (by omega)
    rw [one_pow0] at e1 e2
    refine ⟨?_, ?_, ?_⟩
    · rw [e1, hF]; simp
    · rw [e2]; exact box2_set1 (box2_set0 (box2_set1 hR _) _) _
    · exact (((grown_set _ _ _ _).trans (grown_set _ _ _ _)).trans (grown_set _ _ _ _)).trans (grown_drew _ _)
  · obtain ⟨s, hs⟩ : ∃ s : Nat, top - n = (s : Int) := ⟨(top - n).toNat, by omega⟩
    have hs32 : s < 32 := by omega
    have hm : max top n = top := by omega
    have HS := hidOf (show shl32 b top n = b by unfold shl32; rw [if_neg hgt])
    rw [hm] at HT HU HF
    rw [show (top - n).toNat = s by omega] at HU HF
    clear hm
    go_enter Try.func42, Try.ntmps42
    go_wp2
    go_ret
    have hF := HF.out
    have hT := HT.out
    have hU := HU.out
    rw [HS.out] at hF hU
    rw [hT, hU, or_val hb hs32, pow_val hs32]
    refine ⟨?_, ?_, ?_⟩
    · rw [fresh_val hb hs32, hF]; simp
    · exact box2_set1 hR _
    · exact grown_set _ _ _ _
end Go.Proofs.Ythfgiabkafdbdaa.Wn
