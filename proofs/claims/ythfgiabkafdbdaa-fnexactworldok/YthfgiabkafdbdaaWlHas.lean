
/- hasMember of the program, l7At of the model: is there a member with an Id? -/
import Derived.Test.YthfgiabkafdbdaaWlR
import Derived.Test.YthfgiabkafdbdaaBox5
namespace Go.Proofs.Ythfgiabkafdbdaa
open Go.RowKit

theorem hidW {p : Prop} (h : p) : Hid p := h
abbrev fnHas (p : Nat) : Value := .func (.func 81) #[] #[.pointer (some ⟨p, 0, none⟩)]
theorem hasOne_any (x y id : Int) (u : Value) (p : Nat) (w : World) (hc : w.cell? ⟨p, 0, none⟩ = some (.int .i64 id)) :
    Calls Try.prog 81 #[mv x y u, .pointer (some ⟨p, 0, none⟩)] w fun e w' => e = .returned (.bool (decide (x = id))) ∧ Below w.heap.size w w' := by
  have hB1 := one_below w (mb x y u)
  obtain ⟨c0, c1, c2⟩ := cell3 w x y u
  have d0 := cell_since hc hB1
  by_cases h : x = id
  · have h' : (x == id) = true := by simpa using h
    have hd : decide (x = id) = true := by simpa using h
    rw [hd]
    subst h
    clear hd
    go_enter Try.func81, Try.ntmps81
    go_wp2
    go_ret
    exact ⟨rfl, hB1⟩
  · have h' : (x == id) = false := by simpa using h
    have hd : decide (x = id) = false := by simpa using h
    rw [hd]
    clear hd
    go_enter Try.func81, Try.ntmps81
    go_wp2
    go_ret
    exact ⟨rfl, hB1⟩
/-- Where the first member with an Id is. -/
def atN (ds : List MD) (id : Int) : Int := if hasB ds id = true then ((ds.takeWhile fun d => decide (d.1 ≠ id)).length : Int) else -1
theorem atN_neg (ds : List MD) (id : Int) : decide (atN ds id < 0) = !hasB ds id := by
  unfold atN
  cases h : hasB ds id
  · simp
  · simp
theorem atN_pos (ds : List MD) (id : Int) : decide (0 ≤ atN ds id) = hasB ds id := by
  unfold atN
  cases h : hasB ds id
  · simp
  · simp
theorem atN_found {ds : List MD} {id : Int} {k : Nat} (hk : k < ds.length) (hno : hasTo ds id k = false) (e : ds[k].1 = id) : atN ds id = (k : Int) := by
  have hb := hasB_of hk e
  unfold atN
  rw [if_pos hb]
  congr 1
  have h2 : ds.drop k = ds[k] :: ds.drop (k + 1) := List.drop_eq_getElem_cons hk
  have h3 : ∀ d ∈ ds.take k, decide (d.1 ≠ id) = true := by
    intro d hd
    simp only [hasTo, List.any_eq_false, decide_eq_true_eq] at hno
    simpa using hno d hd
  have h4 : (ds.takeWhile fun d => decide (d.1 ≠ id)) = ds.take k := by
    have h5 : ((ds.drop k).takeWhile fun d => decide (d.1 ≠ id)) = [] := by rw [h2, List.takeWhile_cons, if_neg (by simp [e])]
    conv => lhs; rw [← List.take_append_drop k ds, List.takeWhile_append_of_pos h3, h5]
    simp
  rw [h4, List.length_take]
  omega
theorem atN_none {ds : List MD} {id : Int} (h : hasTo ds id ds.length = false) : atN ds id = -1 := by
  rw [hasTo_all] at h
  simp [atN, h]

set_option maxRecDepth 100000 in
set_option maxHeartbeats 1000000 in
theorem indexMember_any {B p : Nat} {v : Value} {ds : List MD} {id : Int} {w : World} (h : Mems B v ds w) (hc : w.cell? ⟨p, 0, none⟩ = some (.int .i64 id)) :
    Calls Try.prog 97 #[v, fnHas p] w fun e w' => e = .returned (.int .i64 (atN ds id)) ∧ Below w.heap.size w w' := by
  obtain ⟨a, c, rfl, hm, hrow⟩ := h.len
  unfold maxLen at hm
  have HR := hidW hrow
  clear h hrow
  generalize hn : ds.length = n at *
  go_enter Try.func97, Try.ntmps97
  go_wp2
  go_loopw [8] (fun i wr => ∃ k : Nat, i = .int .i64 (k : Int) ∧ k ≤ n ∧ hasTo ds id k = false ∧ Below w.heap.size w wr) (fun i _ => n - (intOf i).toNat)
  case atStart => exact ⟨0, rfl, Nat.zero_le _, by simp [hasTo], Below.refl _ _⟩
  case round =>
    obtain ⟨k, rfl, hk, hno, hB⟩ := hrel
    have HN := hidW hno
    clear hno
    by_cases hlt : k < n
    · have hlk : k < ds.length := by omega
      obtain ⟨b, off, ha, hb, hseg⟩ : ∃ b off, a = some ⟨b, off, none⟩ ∧ b < w.heap.size ∧ ESeg (fun u l W => Keys B u l W) b off ds w := by
        rcases HR.out with e | e
        · rw [e] at hlk; simp at hlk
        · exact e
      subst ha
      obtain ⟨u, c1, c2, c3, c4⟩ := (hseg.since (stableK B) hB) k hlk
      obtain ⟨a', c', rfl, _, _⟩ := c4.row
      have d0 := cell_since hc hB
      have HF := hidW (fun e => atN_found hlk HN.out e)
      have HS := hidW (hasTo_succ ds id k hlk)
      clear hseg c4
      generalize ds[k].2.2.length = n' at *
      generalize ds[k].1 = x1 at *
      generalize ds[k].2.1 = x2 at *
      go_wp2_with fail
      refine (hasOne_any x1 x2 id _ p _ d0).mono ?_
      rintro e w2 ⟨rfl, b2⟩
      have hB2 := more hB b2
      clear b2 c1 c2 c3 d0 hB
      by_cases hx : x1 = id
      · have hd : decide (x1 = id) = true := by simpa using hx
        rw [hd]
        have HA := hidW (HF.out hx)
        clear HF HS hd
        go_wp2
        go_ret
        exact ⟨by rw [HA.out]; rfl, hB2⟩
      · have hd : decide (x1 = id) = false := by simpa using hx
        rw [hd]
        have HA := hidW (show hasTo ds id (k + 1) = false by rw [HS.out, HN.out, hd]; rfl)
        clear HF HS hd
        go_wp2
        go_roundw
        case rel => exact ⟨k + 1, by go_num, by omega, HA.out, hB2⟩
        case measure => simp [intOf]; omega
    · have HA := hidW (atN_none (ds := ds) (id := id) (by rw [hn]; have : k = n := by omega
                                                          rw [← this]; exact HN.out))
      go_wp2
      go_ret
      exact ⟨by rw [HA.out]; rfl, hB⟩

theorem hasMember_any {B : Nat} {v : Value} {ds : List MD} {w : World} (id : Int) (h : Mems B v ds w) :
    Calls Try.prog 61 #[v, .int .i64 id] w fun e w' => e = .returned (.bool (hasB ds id)) ∧ Below w.heap.size w w' := by
  have hB1 := one_below w (.cells #[.int .i64 id] 2)
  have H1 := hidW (ERd.since (stableK B) h hB1)
  have c0 : (w.alloc (.cells #[.int .i64 id] 2)).cell? ⟨w.heap.size, 0, none⟩ = some (.int .i64 id) := by simp
  have hat := atN_pos ds id
  obtain ⟨a, c, rfl, _, _⟩ := h.len
  clear h
  have HC : Calls Try.prog 80 #[.slice a ds.length c, fnHas w.heap.size] (w.alloc (.cells #[.int .i64 id] 2)) fun e w' => e = .returned (.bool (hasB ds id)) ∧ Below w.heap.size w w' := by
    generalize w.alloc (.cells #[.int .i64 id] 2) = w1 at *
    go_enter Try.func80, Try.ntmps80
    go_wp2_with fail
    refine (indexMember_any H1.out c0).mono ?_
    rintro e w2 ⟨rfl, b2⟩
    have HB := hidW (more hB1 b2)
    have HT := hidW hat
    clear b2 hB1 H1 c0 hat
    generalize atN ds id = z at *
    go_wp2
    go_ret
    exact ⟨by rw [← HT.out]; rfl, HB.out⟩
  go_enter Try.func61, Try.ntmps61
  go_wp2_with fail
  refine HC.mono ?_
  rintro e w2 ⟨rfl, b2⟩
  clear HC H1 hB1 c0 hat
  go_wp2
  go_ret
  exact ⟨rfl, b2⟩
end Go.Proofs.Ythfgiabkafdbdaa
