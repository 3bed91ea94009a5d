
/- What the drawn law of Learned asks of what can be learned: it is right, learned for good, grows, in whatever order. -/
import Derived.Test.YtkkjpkldfllfiaaLMath
namespace Go.Proofs.Ytkkjpkldfllfiaa
open Go.RowKit

theorem rise_len : ∀ (a L : List K2), Rise a → (∀ k ∈ a, k ∈ L) → a.length ≤ L.length
  | [], _, _, _ => Nat.zero_le _
  | k :: a, L, h, hs => by
    have hp := List.pairwise_cons.1 h
    have hk : k ∈ L := hs k (by simp)
    have := rise_len a (L.erase k) hp.2 (fun x hx => by
      have hne : x ≠ k := fun e => Ah.irr k (e ▸ hp.1 x hx)
      exact (List.mem_erase_of_ne hne).2 (hs x (by simp [hx])))
    rw [List.length_erase_of_mem hk] at this
    have := List.length_pos_of_mem hk
    simp only [List.length_cons]
    omega
theorem known_ok {ks : List K2} (h : knownB ks = true) : ∀ k ∈ ks, okK k.1 k.2 = true := by
  unfold knownB at h
  simp only [Bool.and_eq_true, decide_eq_true_eq] at h
  intro k hk
  obtain ⟨i, hi, rfl⟩ := List.getElem_of_mem hk
  have := List.all_eq_true.1 h.2 i (List.mem_range.2 hi)
  unfold okAt at this
  rw [kAt_get ks i hi] at this
  simp only [Bool.and_eq_true] at this
  exact this.1
theorem wrapsB_of {ws : List W4} (h1 : ws.length ≤ 400) (h2 : ∀ x ∈ ws, okW x = true) : wrapsB ws = true := by
  unfold wrapsB
  simp only [Bool.and_eq_true, decide_eq_true_eq, List.all_eq_true]
  exact ⟨h1, h2⟩
theorem wraps_ok {ws : List W4} (h : wrapsB ws = true) : ws.length ≤ 400 ∧ ∀ x ∈ ws, okW x = true := by
  unfold wrapsB at h
  simp only [Bool.and_eq_true, decide_eq_true_eq, List.all_eq_true] at h
  exact h
theorem wrapsB_sub {ws ws' : List W4} (h : wrapsB ws = true) (hl : ws'.length ≤ ws.length) (hs : ∀ x ∈ ws', x ∈ ws) : wrapsB ws' = true :=
  wrapsB_of (by have := (wraps_ok h).1; omega) (fun x hx => (wraps_ok h).2 x (hs x hx))
theorem LrnOut.right {ks : List K2} {ws : List W4} {out : List K2} (h : LrnOut ks ws out) (hk : knownB ks = true) (hw : wrapsB ws = true) (hfew : ks.length + ws.length ≤ 200) : Rise out ∧ (∀ k, k ∈ out ↔ Lrn ks ws k) ∧ knownB out = true ∧ out.length ≤ ks.length + ws.length := by
  unfold LrnOut at h
  rw [if_pos ⟨hk, hw⟩] at h
  have hl : out.length ≤ ks.length + ws.length := by
    have := rise_len out (ks ++ ws.map wKey) h.1 (fun k hk => by
      rw [List.mem_append]
      rcases (Lrn.cases' k).1 ((h.2 k).1 hk) with h1 | ⟨x, hx, h1, _⟩
      · exact .inl h1
      · exact .inr (List.mem_map.2 ⟨x, hx, h1⟩))
    simpa using this
  refine ⟨h.1, h.2, knownB_of (by omega) h.1 (fun k hk' => ?_), hl⟩
  rcases (Lrn.cases' k).1 ((h.2 k).1 hk') with h1 | ⟨x, hx, h1, _⟩
  · exact known_ok hk k h1
  · have := (wraps_ok hw).2 x hx
    unfold okW at this
    simp only [Bool.and_eq_true] at this
    rw [← h1]
    exact this.2
/-- What was learned of what lies between what was known and what can be learned is what can be learned. -/
theorem LrnOut.again {ks mid out o : List K2} {ws : List W4} (h : ∀ k, k ∈ out ↔ Lrn ks ws k) (hr : Rise out) (hm : knownB mid = true) (hw : wrapsB ws = true) (h1 : ∀ k ∈ ks, k ∈ mid) (h2 : ∀ k ∈ mid, k ∈ out) (ho : LrnOut mid ws o) : o = out := by
  unfold LrnOut at ho
  rw [if_pos ⟨hm, hw⟩] at ho
  refine Rise.eq ho.1 hr (fun k => ?_)
  rw [ho.2 k]
  constructor
  · intro hk
    have := Lrn.grows (ks' := out) (ws' := ws) h2 (fun _ h => h) hk
    exact (h k).2 ((Lrn.forGood h k).1 this)
  · intro hk
    exact Lrn.grows (ks := ks) (ws := ws) h1 (fun _ h => h) ((h k).1 hk)
theorem LrnOut.other {ks out o : List K2} {ws ws' : List W4} (h : ∀ k, k ∈ out ↔ Lrn ks ws k) (hr : Rise out) (hk : knownB ks = true) (hw : wrapsB ws' = true) (hs : ∀ x, x ∈ ws ↔ x ∈ ws') (ho : LrnOut ks ws' o) : o = out := by
  unfold LrnOut at ho
  rw [if_pos ⟨hk, hw⟩] at ho
  refine Rise.eq ho.1 hr (fun k => ?_)
  rw [ho.2 k, h k]
  exact (Lrn.order hs k).symm
theorem wcells_take (ws : List W4) (m : Nat) : (wcells ws).take (m * 4) = wcells (ws.take m) := by
  induction ws generalizing m with
  | nil => simp [wcells]
  | cons k ws ih =>
    cases m with
    | zero => simp [wcells]
    | succ m =>
      have e : (m + 1) * 4 = m * 4 + 1 + 1 + 1 + 1 := by omega
      have := ih m
      rw [e]
      simp only [wcells, List.flatMap_cons, List.cons_append, List.nil_append, List.take_succ_cons] at this ⊢
      rw [this]
theorem Wraps.cut {B g cap : Nat} {ws : List W4} {n : Nat} {W : World} (h : Wraps B (.slice (some ⟨g, 0, none⟩) n cap) ws W) (m : Nat) (hm : m ≤ ws.length) : Wraps B (.slice (some ⟨g, 0, none⟩) m cap) (ws.take m) W := by
  have hl : (ws.take m).length = m := by simp; omega
  obtain ⟨_, h2⟩ := h
  rcases h2 with ⟨e, _⟩ | ⟨g', cap', cur, e, hb, hg, h1, h3, h4, h5⟩
  · cases e
  · injection e with e e1 e2
    injection e with e
    injection e with e
    subst e e2
    refine ⟨by rw [wcells_length], .inr ⟨g, cap, cur, by rw [hl], hb, hg, by omega, h3, h4, ?_⟩⟩
    rw [hl, ← wcells_take, ← h5, List.take_take, Nat.min_eq_left (by omega)]
theorem drop_rev (ws : List W4) (j : Nat) (h : j < ws.length) : (ws.drop j).reverse = (ws.drop (j + 1)).reverse ++ [ws[j]] := by
  rw [List.drop_eq_getElem_cons h, List.reverse_cons]
end Go.Proofs.Ytkkjpkldfllfiaa
