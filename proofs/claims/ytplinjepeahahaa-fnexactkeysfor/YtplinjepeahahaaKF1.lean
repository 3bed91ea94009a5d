
/- Where a member sits: leafOf of the program, l3Leaf of the model. -/
import Derived.Test.YtplinjepeahahaaSrv5a
namespace Go.Proofs.Ytplinjepeahahaa
open Go.RowKit

def seatOf (ss : List (Int × Int)) (m : Int) : Option Int := (ss.find? (fun s => decide (s.1 = m))).map Prod.snd
def leafV (ss : List (Int × Int)) (m : Int) : Int := (seatOf ss m).getD 0
theorem kAt_succ (s : Int × Int) (ss : List (Int × Int)) (j : Nat) : kAt (s :: ss) (j + 1) = kAt ss j := by simp [kAt]
theorem seatOf_hit : ∀ (ss : List (Int × Int)) (m : Int) (k : Nat), (∀ j, j < k → (kAt ss j).1 ≠ m) → k < ss.length → (kAt ss k).1 = m → seatOf ss m = some (kAt ss k).2
  | [], _, _, _, h, _ => by simp at h
  | s :: ss, m, 0, _, _, h => by
    have e : kAt (s :: ss) 0 = s := by simp [kAt]
    rw [e] at h ⊢
    simp [seatOf, h]
  | s :: ss, m, k + 1, h1, h2, h3 => by
    have h0 : (kAt (s :: ss) 0).1 ≠ m := h1 0 (by omega)
    have e : kAt (s :: ss) 0 = s := by simp [kAt]
    rw [e] at h0
    rw [kAt_succ] at h3 ⊢
    have := seatOf_hit ss m k (fun j hj => by have := h1 (j + 1) (by omega); rwa [kAt_succ] at this) (by simpa using h2) h3
    rw [← this]
    simp [seatOf, h0]
theorem seatOf_none : ∀ (ss : List (Int × Int)) (m : Int), (∀ j, j < ss.length → (kAt ss j).1 ≠ m) → seatOf ss m = none
  | [], _, _ => rfl
  | s :: ss, m, h => by
    have h0 : (kAt (s :: ss) 0).1 ≠ m := h 0 (by simp)
    have e : kAt (s :: ss) 0 = s := by simp [kAt]
    rw [e] at h0
    have := seatOf_none ss m (fun j hj => by have := h (j + 1) (by simpa using hj); rwa [kAt_succ] at this)
    rw [← this]
    simp [seatOf, h0]
theorem seatOf_mem {ss : List (Int × Int)} {m l : Int} (h : seatOf ss m = some l) : ∃ k, k < ss.length ∧ (kAt ss k).2 = l := by
  unfold seatOf at h
  obtain ⟨s, hs, rfl⟩ := Option.map_eq_some_iff.1 h
  obtain ⟨k, hk, e⟩ := List.getElem_of_mem (List.mem_of_find?_eq_some hs)
  exact ⟨k, hk, by rw [kAt_get ss k hk, e]⟩
theorem seatOf_leaf {ep : Int} {vs : List Int} {ss : List (Int × Int)} {m l : Int} (h : serverB ep vs ss = true) (hs : seatOf ss m = some l) : 8 ≤ l ∧ l ≤ 15 := by
  obtain ⟨k, hk, rfl⟩ := seatOf_mem hs
  unfold serverB seatsB seatsTo at h
  simp only [Bool.and_eq_true, List.all_eq_true] at h
  have := h.2.2.2 k (List.mem_range.2 hk)
  unfold seatAt at this
  simp only [Bool.and_eq_true, decide_eq_true_eq] at this
  exact this.2.1

set_option maxHeartbeats 1000000 in
theorem leafOf_any {C : Nat} {x y : Value} {ss : List (Int × Int)} {w : World} (ep m : Int) (hy : Seats C y ss w) :
    Calls Try.prog 53 #[svv ep x y, .int .i64 m] w fun e w' => e = .returned (.tuple #[.int .i64 (leafV ss m), .bool (seatOf ss m).isSome]) ∧ Below w.heap.size w w' := by
  have hB1 := one_below w (svb ep x y)
  obtain ⟨a, c, hv, hm, hrow⟩ := (hy.since hB1).row
  subst hv
  obtain ⟨c0, c1, c2⟩ := scell3 w ep x (.slice a ss.length c)
  have HR := hidOf' hrow
  clear hrow hy
  unfold maxLen at hm
  generalize hn : ss.length = n at *
  go_enter Try.func53, Try.ntmps53
  go_wp2
  generalize w.alloc (svb ep x (.slice a n c)) = w1 at *
  go_loopw [11] (fun i wr => ∃ k : Nat, i = .int .i64 (k : Int) ∧ k ≤ n ∧ Hid (∀ j, j < k → (kAt ss j).1 ≠ m) ∧ Below w1.heap.size w1 wr) (fun i _ => n - (intOf i).toNat)
  case atStart => exact ⟨0, rfl, Nat.zero_le _, fun j hj => absurd hj (Nat.not_lt_zero _), Below.refl _ _⟩
  case round =>
    obtain ⟨k, rfl, hkn, HP, hB⟩ := hrel
    by_cases hlt : k < n
    · have hlk : k < ss.length := by omega
      obtain ⟨g, ha, hg, hseg⟩ : ∃ g, a = some ⟨g, 0, none⟩ ∧ g < w1.heap.size ∧ KSeg g 0 ss w1 := by
        rcases HR.out with e | e
        · rw [e] at hlk; simp at hlk
        · exact e
      subst ha
      obtain ⟨a1, a2⟩ := hseg k hlk
      simp only [Nat.zero_add] at a1 a2
      have e1 := cell_since a1 hB
      have e2 := cell_since a2 hB
      have HK := hidOf' (kAt_get ss k hlk)
      clear hseg a1 a2
      obtain ⟨p, q, hpq⟩ : ∃ p q, ss[k] = (p, q) := ⟨_, _, rfl⟩
      rw [hpq] at e1 e2 HK
      clear hpq
      have HB' := hidOf' (hB.alloc hB.size (sb p q))
      by_cases hp : p = m
      · have hp' : (p == m) = true := by simpa using hp
        have HH := hidOf' (seatOf_hit ss m k HP.out hlk (by rw [HK.out]; exact hp))
        subst hp
        go_wp2
        have h1 := HH.out
        rw [HK.out] at h1
        exact bodyPost_ret (v := .tuple #[.int .i64 q, .bool true]) (by simp [results, Try.results53, go_sem]) rfl ⟨by unfold leafV; rw [h1]; rfl, more hB1 HB'.out⟩
      · have hp' : (p == m) = false := by simpa using hp
        have HN := hidOf' (show ∀ j, j < k + 1 → (kAt ss j).1 ≠ m from fun j hj => by
          by_cases e : j < k
          · exact HP.out j e
          · obtain rfl : j = k := by omega
            rw [HK.out]; exact hp)
        go_wp2
        go_roundw
        case rel => exact ⟨k + 1, by go_num, by omega, HN.out, HB'.out⟩
        case measure => simp [intOf] <;> omega
    · obtain rfl : k = n := by omega
      have HN := hidOf' (seatOf_none ss m (fun j hj => HP.out j (by omega)))
      go_wp2
      exact bodyPost_ret (v := .tuple #[.int .i64 0, .bool false]) (by simp [results, Try.results53, go_sem]) rfl ⟨by unfold leafV; rw [HN.out]; rfl, more hB1 hB⟩

set_option maxHeartbeats 1000000 in
theorem l3Leaf_any {C : Nat} {x y : Value} {ss : List (Int × Int)} {w : World} (ep m : Int) (hy : Seats C y ss w) :
    Calls Try.prog 51 #[svv ep x y, .int .i64 m] w fun e w' => e = .returned (.int .i64 (leafV ss m)) ∧ Below w.heap.size w w' := by
  have hB1 := one_below w (svb ep x y)
  obtain ⟨a, c, hv, hm, hrow⟩ := (hy.since hB1).row
  subst hv
  obtain ⟨c0, c1, c2⟩ := scell3 w ep x (.slice a ss.length c)
  have HR := hidOf' hrow
  clear hrow hy
  unfold maxLen at hm
  generalize hn : ss.length = n at *
  go_enter Try.func51, Try.ntmps51
  go_wp2
  generalize w.alloc (svb ep x (.slice a n c)) = w1 at *
  go_loopw [5] (fun i wr => ∃ k : Nat, i = .int .i64 (k : Int) ∧ k ≤ n ∧ Hid (∀ j, j < k → (kAt ss j).1 ≠ m) ∧ wr = w1) (fun i _ => n - (intOf i).toNat)
  case atStart => exact ⟨0, rfl, Nat.zero_le _, fun j hj => absurd hj (Nat.not_lt_zero _), rfl⟩
  case round =>
    obtain ⟨k, rfl, hkn, HP, hwr⟩ := hrel
    subst hwr
    by_cases hlt : k < n
    · have hlk : k < ss.length := by omega
      obtain ⟨g, ha, hg, hseg⟩ : ∃ g, a = some ⟨g, 0, none⟩ ∧ g < wr.heap.size ∧ KSeg g 0 ss wr := by
        rcases HR.out with e | e
        · rw [e] at hlk; simp at hlk
        · exact e
      subst ha
      obtain ⟨e1, e2⟩ := hseg k hlk
      simp only [Nat.zero_add] at e1 e2
      have HK := hidOf' (kAt_get ss k hlk)
      clear hseg
      obtain ⟨p, q, hpq⟩ : ∃ p q, ss[k] = (p, q) := ⟨_, _, rfl⟩
      rw [hpq] at e1 e2 HK
      clear hpq
      by_cases hp : p = m
      · have hp' : (p == m) = true := by simpa using hp
        have HH := hidOf' (seatOf_hit ss m k HP.out hlk (by rw [HK.out]; exact hp))
        subst hp
        go_wp2
        go_ret
        have h1 := HH.out
        rw [HK.out] at h1
        exact ⟨by unfold leafV; rw [h1]; rfl, hB1⟩
      · have hp' : (p == m) = false := by simpa using hp
        have HN := hidOf' (show ∀ j, j < k + 1 → (kAt ss j).1 ≠ m from fun j hj => by
          by_cases e : j < k
          · exact HP.out j e
          · obtain rfl : j = k := by omega
            rw [HK.out]; exact hp)
        go_wp2
        go_roundw
        case rel => exact ⟨k + 1, by go_num, by omega, HN.out, trivial⟩
        case measure => simp [intOf] <;> omega
    · obtain rfl : k = n := by omega
      have HN := hidOf' (seatOf_none ss m (fun j hj => HP.out j (by omega)))
      go_wp2
      go_ret
      exact ⟨by unfold leafV; rw [HN.out]; rfl, hB1⟩
end Go.Proofs.Ytplinjepeahahaa
