
/- No number is taken twice; numbers that rise above the top are all taken (mathematics alone). -/
import Derived.Test.YthfgiabkafdbdaaWAll
namespace Go.Proofs.Ythfgiabkafdbdaa.Wn

/-- A number that was seen: it stands in the window, or is too old for it. -/
def SeenAt (T : Int) (X : List Int) (n : Int) : Prop := n ∈ X ∨ n ≤ T - 32
theorem SeenAt.not {T n : Int} {X : List Int} (h : SeenAt T X n) : ¬ takes T X n := fun t => by
  rcases h with e | e
  · exact t.2.2.2 e
  · have := t.2.2.1; omega
theorem SeenAt.acc {T n m : Int} {X : List Int} (h : SeenAt T X n) : SeenAt (accT T X m) (accX T X m) n := by
  unfold accT accX
  by_cases t : takes T X m
  · rw [if_pos t, if_pos t]
    rcases h with e | e
    · by_cases hb : max T m - 32 < n
      · left
        rw [mem_putUp, List.mem_filter]
        exact .inr ⟨e, by simpa using hb⟩
      · right; omega
    · right; omega
  · rw [if_neg t, if_neg t]; exact h
theorem takes_seen {T n : Int} {X : List Int} (t : takes T X n) : SeenAt (accT T X n) (accX T X n) n := by
  unfold accT accX
  rw [if_pos t, if_pos t]
  left
  rw [mem_putUp]
  exact .inl rfl
theorem SeenAt.alls : ∀ (l : List Int) {T n : Int} {X : List Int}, SeenAt T X n → SeenAt (allT T X l) (allX T X l) n
  | [], _, _, _, h => h
  | m :: l, _, _, _, h => SeenAt.alls l (h.acc (m := m))
theorem allT_append : ∀ (a b : List Int) (T : Int) (X : List Int), allT T X (a ++ b) = allT (allT T X a) (allX T X a) b
  | [], _, _, _ => rfl
  | _ :: a, b, _, _ => allT_append a b _ _
theorem allX_append : ∀ (a b : List Int) (T : Int) (X : List Int), allX T X (a ++ b) = allX (allT T X a) (allX T X a) b
  | [], _, _, _ => rfl
  | _ :: a, b, _, _ => allX_append a b _ _
theorem allB_get : ∀ (l : List Int) (T : Int) (X : List Int) (i : Nat) (h : i < l.length), (allB T X l)[i]'(by rw [allB_len]; exact h) = accB (allT T X (l.take i)) (allX T X (l.take i)) l[i]
  | [], _, _, _, h => by simp at h
  | n :: l, T, X, 0, _ => rfl
  | n :: l, T, X, i + 1, h => allB_get l _ _ i (by simpa using h)
theorem once_seen {l : List Int} {T : Int} {X : List Int} {i : Nat} (h : i < l.length) (hb : (allB T X l)[i]'(by rw [allB_len]; exact h) = true) : l[i] ∉ X := by
  rw [allB_get _ _ _ i h] at hb
  unfold accB at hb
  have ht := of_decide_eq_true hb
  intro hm
  exact (SeenAt.alls (l.take i) (show SeenAt T X l[i] from .inl hm)).not ht
theorem once_twice {l : List Int} {T : Int} {X : List Int} {i k : Nat} (h : i < l.length) (hk : k < i) (hb : (allB T X l)[i]'(by rw [allB_len]; exact h) = true) (hc : (allB T X l)[k]'(by rw [allB_len]; omega) = true) : l[i] ≠ l[k]'(by omega) := by
  rw [allB_get _ _ _ i h] at hb
  rw [allB_get _ _ _ k (by omega)] at hc
  unfold accB at hb hc
  have ht := of_decide_eq_true hb
  have hs := takes_seen (of_decide_eq_true hc)
  rw [← allT_snoc, ← allX_snoc, ← List.take_succ_eq_append_getElem (by omega)] at hs
  have e : l.take i = l.take (k + 1) ++ (l.take i).drop (k + 1) := by
    have := List.take_append_drop (k + 1) (l.take i)
    rw [List.take_take, Nat.min_eq_left (by omega)] at this
    exact this.symm
  intro he
  have := SeenAt.alls ((l.take i).drop (k + 1)) hs
  rw [← allT_append, ← allX_append, ← e, ← he] at this
  exact this.not ht
theorem all_taken : ∀ (l : List Int) (T : Int) (X : List Int), WinOk T X → (∀ n ∈ l, T < n ∧ n ≤ 1000000000) → l.Pairwise (· < ·) → ∀ i (h : i < l.length), (allB T X l)[i]'(by rw [allB_len]; exact h) = true
  | [], _, _, _, _, _, i, h => by simp at h
  | n :: l, T, X, hw, hn, hp, i, h => by
    have h1 := hn n (by simp)
    have hr := hw.range
    have ht : takes T X n := ⟨by omega, h1.2, by omega, fun hm => by have := (hw.all n hm).2.2; omega⟩
    have hT : accT T X n = n := by unfold accT; rw [if_pos ht]; omega
    match i with
    | 0 => exact decide_eq_true ht
    | i + 1 =>
      have hp' := List.pairwise_cons.1 hp
      exact all_taken l (accT T X n) (accX T X n) hw.acc (fun m hm => ⟨by rw [hT]; exact hp'.1 m hm, (hn m (by simp [hm])).2⟩) hp'.2 i (by simpa using h)
end Go.Proofs.Ythfgiabkafdbdaa.Wn
