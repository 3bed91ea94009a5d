
/- When a server is right; versOk and seatsOk of the program. -/
import Derived.Test.YtplinjepeahahaaInts2
namespace Go.Proofs.Ytplinjepeahahaa
open Go.RowKit

def vAt (xs : List Int) (i : Nat) : Int := xs.getD i 0
theorem vAt_get (xs : List Int) (i : Nat) (h : i < xs.length) : vAt xs i = xs[i] := by simp [vAt, h]
def verAt (xs : List Int) (i : Nat) : Bool := decide (1 ≤ vAt xs i ∧ vAt xs i ≤ 1000000000)
def versTo (xs : List Int) (m : Nat) : Bool := (List.range m).all (verAt xs)
theorem versTo_succ (xs : List Int) (m : Nat) : versTo xs (m + 1) = (versTo xs m && verAt xs m) := by simp [versTo, List.range_succ]
theorem versTo_false {xs : List Int} {m n : Nat} (h : verAt xs m = false) (hn : m < n) : versTo xs n = false := by
  simp only [versTo, List.all_eq_false]
  exact ⟨m, List.mem_range.2 hn, by simp [h]⟩
def versB (xs : List Int) : Bool := decide (xs.length = 15) && versTo xs xs.length

/-- Has one of the first m seats the leaf l? -/
def takenB (ss : List (Int × Int)) (m : Nat) (l : Int) : Bool := (List.range m).any fun k => decide ((kAt ss k).2 = l)
theorem takenB_succ (ss : List (Int × Int)) (m : Nat) (l : Int) : takenB ss (m + 1) l = (takenB ss m l || decide ((kAt ss m).2 = l)) := by simp [takenB, List.range_succ]
theorem takenB_true {ss : List (Int × Int)} {k m : Nat} {l : Int} (h : (kAt ss k).2 = l) (hk : k < m) : takenB ss m l = true := by
  simp only [takenB, List.any_eq_true]
  exact ⟨k, List.mem_range.2 hk, by simp [h]⟩
def seatAt (ss : List (Int × Int)) (i : Nat) : Bool :=
  decide (1 ≤ (kAt ss i).1 ∧ (kAt ss i).1 ≤ 20) && (decide (8 ≤ (kAt ss i).2 ∧ (kAt ss i).2 ≤ 15) && ((decide (i = 0) || decide ((kAt ss (i - 1)).1 < (kAt ss i).1)) && !takenB ss i (kAt ss i).2))
def seatsTo (ss : List (Int × Int)) (m : Nat) : Bool := (List.range m).all (seatAt ss)
theorem seatsTo_succ (ss : List (Int × Int)) (m : Nat) : seatsTo ss (m + 1) = (seatsTo ss m && seatAt ss m) := by simp [seatsTo, List.range_succ]
theorem seatsTo_false {ss : List (Int × Int)} {m n : Nat} (h : seatAt ss m = false) (hn : m < n) : seatsTo ss n = false := by
  simp only [seatsTo, List.all_eq_false]
  exact ⟨m, List.mem_range.2 hn, by simp [h]⟩
def seatsB (ss : List (Int × Int)) : Bool := decide (ss.length ≤ 8) && seatsTo ss ss.length
def serverB (ep : Int) (vs : List Int) (ss : List (Int × Int)) : Bool := decide (0 ≤ ep ∧ ep ≤ 1000000000) && (versB vs && seatsB ss)

theorem isLeaf_any (n : Int) (w : World) :
    Calls Try.prog 62 #[.int .i64 n] w fun e w' => e = .returned (.bool (decide (8 ≤ n ∧ n ≤ 15))) ∧ w' = w := by
  by_cases h1 : 8 ≤ n
  · by_cases h2 : n ≤ 15
    · rw [decide_eq_true ⟨h1, h2⟩]
      go_enter Try.func62, Try.ntmps62
      go_wp2
      go_ret
      exact ⟨by simp, rfl⟩
    · rw [decide_eq_false (fun h => h2 h.2)]
      go_enter Try.func62, Try.ntmps62
      go_wp2
      go_ret
      exact ⟨by simp, rfl⟩
  · rw [decide_eq_false (fun h => h1 h.1)]
    go_enter Try.func62, Try.ntmps62
    go_wp2
    go_ret
    exact ⟨rfl, rfl⟩

set_option maxHeartbeats 1000000 in
theorem versOk_any {B : Nat} {v : Value} {xs : List Int} {w : World} (h : Ints B v xs w) :
    Calls Try.prog 42 #[v] w fun e w' => e = .returned (.bool (versB xs)) ∧ w' = w := by
  obtain ⟨a, c, rfl, hm, hrow⟩ := h.row
  clear h
  by_cases hl : xs.length = 15
  · have hne : ((xs.length : Int) == 15) = true := by rw [hl]; rfl
    obtain ⟨g, rfl, hg, hseg⟩ : ∃ g, a = some ⟨g, 0, none⟩ ∧ g < w.heap.size ∧ ISeg g 0 xs w := by
      rcases hrow with e | e
      · rw [e] at hl; simp at hl
      · exact e
    have HV : Hid (versB xs = versTo xs 15) := by show versB xs = _; simp [versB, hl]
    have HS : Hid (ISeg g 0 xs w) := hseg
    clear hrow hseg hm
    rw [hl] at hne ⊢
    go_enter Try.func42, Try.ntmps42
    go_wp2
    go_loopw [10] (fun i wr => ∃ k : Nat, k ≤ 15 ∧ i = .int .i64 (k : Int) ∧ versTo xs k = true ∧ wr = w) (fun i _ => 15 - (intOf i).toNat)
    case atStart => exact ⟨0, by omega, rfl, rfl, rfl⟩
    case round =>
      obtain ⟨k, hk, rfl, hpre, rfl⟩ := hrel
      have HP : Hid (versTo xs k = true) := hpre
      clear hpre
      by_cases hlt : k < 15
      · have hlk : k < xs.length := by omega
        have c1 := HS.out k hlk
        rw [Nat.zero_add] at c1
        have HA : Hid (verAt xs k = decide (1 ≤ xs[k] ∧ xs[k] ≤ 1000000000)) := by show verAt xs k = _; unfold verAt; rw [vAt_get xs k hlk]
        generalize xs[k] = x at c1 HA
        by_cases h1 : 1 ≤ x
        · by_cases h2 : x ≤ 1000000000
          · have HF : Hid (versTo xs (k + 1) = true) := by show versTo xs (k + 1) = true; rw [versTo_succ, HP.out, HA.out]; simp [h1, h2]
            go_wp2
            go_roundw
            case rel => exact ⟨k + 1, by omega, by go_num, HF.out, by first | trivial | rfl⟩
            case measure => simp [intOf]; omega
          · have HF : Hid (versTo xs 15 = false) := versTo_false (m := k) (by rw [HA.out]; simp; omega) hlt
            go_wp2
            go_ret
            exact ⟨by rw [HV.out, HF.out]; rfl, rfl⟩
        · have HF : Hid (versTo xs 15 = false) := versTo_false (m := k) (by rw [HA.out]; simp; omega) hlt
          go_wp2
          go_ret
          exact ⟨by rw [HV.out, HF.out]; rfl, rfl⟩
      · have : k = 15 := by omega
        subst this
        go_wp2
        go_ret
        exact ⟨by rw [HV.out, HP.out]; rfl, rfl⟩
  · have hne : ((xs.length : Int) == 15) = false := by simp; omega
    have HV : Hid (versB xs = false) := by show versB xs = _; simp [versB, hl]
    generalize xs.length = n at *
    go_enter Try.func42, Try.ntmps42
    go_wp2
    go_ret
    exact ⟨by rw [HV.out]; rfl, rfl⟩
end Go.Proofs.Ytplinjepeahahaa
