
/- When a server is right; versOk and seatsOk of the program. -/
import Derived.Test.YtplinjepeahahabInts2
namespace Go.Proofs.Ytplinjepeahahab
open Go.RowKit

def vAt (xs : List Int) (i : Nat) : Int := xs.getD i 0
theorem vAt_get (xs : List Int) (i : Nat) (h : i < xs.length) : vAt xs i = xs[i] := by simp [vAt, h]
def verAt (xs : List Int) (i : Nat) : Bool := decide (1 ≤ vAt xs i ∧ vAt xs i ≤ 1000000000)
def versTo (xs : List Int) (m : Nat) : Bool := (List.range m).all (verAt xs)
theorem versTo_succ (xs : List Int) (m : Nat) : versTo xs (m + 1) = (versTo xs m && verAt xs m) := by simp [versTo, List.range_succ]
theorem versTo_false {xs : List Int} {m n : Nat} (h : verAt xs m = false) (hn : m < n) : versTo xs n = false := by
  simp only [versTo, List.all_eq_false]
  exact ⟨m, List.mem_range.2 hn, by simp [h]⟩
def versB (xs : List Int) : Bool := decide (xs.length = 15) && versTo xs xs.length

/-- Has one of the first m seats the leaf l? -/
def takenB (ss : List (Int × Int)) (m : Nat) (l : Int) : Bool := (List.range m).any fun k => decide ((kAt ss k).2 = l)
theorem takenB_succ (ss : List (Int × Int)) (m : Nat) (l : Int) : takenB ss (m + 1) l = (takenB ss m l || decide ((kAt ss m).2 = l)) := by simp [takenB, List.range_succ]
theorem takenB_true {ss : List (Int × Int)} {k m : Nat} {l : Int} (h : (kAt ss k).2 = l) (hk : k < m) : takenB ss m l = true := by
  simp only [takenB, List.any_eq_true]
  exact ⟨k, List.mem_range.2 hk, by simp [h]⟩
def seatAt (ss : List (Int × Int)) (i : Nat) : Bool :=
  decide (1 ≤ (kAt ss i).1 ∧ (kAt ss i).1 ≤ 20) && (decide (8 ≤ (kAt ss i).2 ∧ (kAt ss i).2 ≤ 15) && ((decide (i = 0) || decide ((kAt ss (i - 1)).1 < (kAt ss i).1)) && !takenB ss i (kAt ss i).2))
def seatsTo (ss : List (Int × Int)) (m : Nat) : Bool := (List.range m).all (seatAt ss)
theorem seatsTo_succ (ss : List (Int × Int)) (m : Nat) : seatsTo ss (m + 1) = (seatsTo ss m && seatAt ss m) := by simp [seatsTo, List.range_succ]
theorem seatsTo_false {ss : List (Int × Int)} {m n : Nat} (h : seatAt ss m = false) (hn : m < n) : seatsTo ss n = false := by
  simp only [seatsTo, List.all_eq_false]
  exact ⟨m, List.mem_range.2 hn, by simp [h]⟩
def seatsB (ss : List (Int × Int)) : Bool := decide (ss.length ≤ 8) && seatsTo ss ss.length
def serverB (ep : Int) (vs : List Int) (ss : List (Int × Int)) : Bool := decide (0 ≤ ep ∧ ep ≤ 1000000000) && (versB vs && seatsB ss)

end Go.Proofs.Ytplinjepeahahab
