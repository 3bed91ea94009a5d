
/- The contracts of MemberOk, of the program and of the model: an Id 1 .. 20, an Epoch 0 .. 10^9, known keys, no two of one node. -/
import Derived.Test.YtplinjepeahahaaKnown2
import Derived.Test.YtplinjepeahahaaEqKeys
namespace Go.Proofs.Ytplinjepeahahaa
open Go.RowKit

theorem more {w W W' : World} (h : Below w.heap.size w W) (hb : Below W.heap.size W W') : Below w.heap.size w W' := h.trans (hb.mono h.size)
abbrev mv (id ep : Int) (v : Value) : Value := .agg #[.int .i64 id, .int .i64 ep, v]

theorem isMember_any (n : Int) (w : World) :
    Calls Try.prog 59 #[.int .i64 n] w fun e w' => e = .returned (.bool (decide (1 ≤ n ∧ n ≤ 20))) ∧ w' = w := by
  by_cases h1 : 1 ≤ n
  · by_cases h2 : n ≤ 20
    · rw [decide_eq_true ⟨h1, h2⟩]
      go_enter Try.func59, Try.ntmps59
      go_wp2
      go_ret
      exact ⟨by simp, rfl⟩
    · rw [decide_eq_false (fun h => h2 h.2)]
      go_enter Try.func59, Try.ntmps59
      go_wp2
      go_ret
      exact ⟨by simp, rfl⟩
  · rw [decide_eq_false (fun h => h1 h.1)]
    go_enter Try.func59, Try.ntmps59
    go_wp2
    go_ret
    exact ⟨rfl, rfl⟩
theorem epochOk_any (n : Int) (w : World) :
    Calls Try.prog 41 #[.int .i64 n] w fun e w' => e = .returned (.bool (decide (0 ≤ n ∧ n ≤ 1000000000))) ∧ w' = w := by
  by_cases h1 : 0 ≤ n
  · by_cases h2 : n ≤ 1000000000
    · rw [decide_eq_true ⟨h1, h2⟩]
      go_enter Try.func41, Try.ntmps41
      go_wp2
      go_ret
      exact ⟨by simp, rfl⟩
    · rw [decide_eq_false (fun h => h2 h.2)]
      go_enter Try.func41, Try.ntmps41
      go_wp2
      go_ret
      exact ⟨by simp, rfl⟩
  · rw [decide_eq_false (fun h => h1 h.1)]
    go_enter Try.func41, Try.ntmps41
    go_wp2
    go_ret
    exact ⟨rfl, rfl⟩

/-- Keys ahead of place m: no two neighbours of one node. -/
def nodeAt (ks : List (Int × Int)) (i : Nat) : Bool := decide (i = 0) || !decide ((kAt ks (i - 1)).1 = (kAt ks i).1)
def nodesTo (ks : List (Int × Int)) (m : Nat) : Bool := (List.range m).all (nodeAt ks)
theorem nodesTo_succ (ks : List (Int × Int)) (m : Nat) : nodesTo ks (m + 1) = (nodesTo ks m && nodeAt ks m) := by simp [nodesTo, List.range_succ]
theorem nodesTo_false {ks : List (Int × Int)} {m n : Nat} (h : nodeAt ks m = false) (hn : m < n) : nodesTo ks n = false := by
  simp only [nodesTo, List.all_eq_false]
  exact ⟨m, List.mem_range.2 hn, by simp [h]⟩
def headB (id ep : Int) (ks : List (Int × Int)) : Bool := decide (1 ≤ id ∧ id ≤ 20) && (decide (0 ≤ ep ∧ ep ≤ 1000000000) && knownB ks)
def memberB (id ep : Int) (ks : List (Int × Int)) : Bool := headB id ep ks && nodesTo ks ks.length

/-- Keys, as an argument: none, or a row. -/
def KRow (a : Option Addr) (ks : List (Int × Int)) (w : World) : Prop := ks = [] ∨ ∃ g, a = some ⟨g, 0, none⟩ ∧ g < w.heap.size ∧ KSeg g 0 ks w
theorem Keys.row {B : Nat} {v : Value} {ks : List (Int × Int)} {w : World} (h : Keys B v ks w) : ∃ a c, v = .slice a ks.length c ∧ ks.length ≤ maxLen ∧ KRow a ks w := by
  rcases h.form with ⟨rfl, rfl⟩ | ⟨g, cap, rfl, _, g1, h1, h2, h3, _⟩
  · exact ⟨_, _, rfl, Nat.zero_le _, .inl rfl⟩
  · exact ⟨_, _, rfl, by omega, .inr ⟨g, rfl, g1, h3⟩⟩
end Go.Proofs.Ytplinjepeahahaa
