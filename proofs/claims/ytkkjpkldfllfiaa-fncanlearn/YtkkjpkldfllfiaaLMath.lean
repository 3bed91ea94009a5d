
/- What can be learned: it grows with what is known and what is wrapped, is learned for good, in whatever order wraps come. -/
import Derived.Test.YtkkjpkldfllfiaaLBoth
namespace Go.Proofs.Ytkkjpkldfllfiaa
open Go.RowKit

theorem Lrn.grows {ks ks' : List K2} {ws ws' : List W4} (h1 : ∀ k ∈ ks, k ∈ ks') (h2 : ∀ x ∈ ws, x ∈ ws') {k : K2} (h : Lrn ks ws k) : Lrn ks' ws' k := by
  exact h _ (fun k hk => Lrn.known k (h1 k hk)) (fun x hx ih => Lrn.wrap x (h2 x hx) ih)
theorem Lrn.order {ks : List K2} {ws ws' : List W4} (h : ∀ x, x ∈ ws ↔ x ∈ ws') (k : K2) : Lrn ks ws k ↔ Lrn ks ws' k :=
  ⟨Lrn.grows (fun _ h => h) fun x => (h x).1, Lrn.grows (fun _ h => h) fun x => (h x).2⟩
theorem Lrn.forGood {ks out : List K2} {ws : List W4} (h : ∀ k, k ∈ out ↔ Lrn ks ws k) (k : K2) : Lrn out ws k ↔ Lrn ks ws k := by
  constructor
  · intro l
    exact l _ (fun k hk => (h k).1 hk) (fun x hx ih => Lrn.wrap x hx ih)
  · exact fun l => Lrn.known k ((h k).2 l)
theorem Lrn.cases' {ks : List K2} {ws : List W4} (k : K2) : Lrn ks ws k ↔ k ∈ ks ∨ ∃ x ∈ ws, wKey x = k ∧ Lrn ks ws (wUnder x) := by
  constructor
  · intro l
    refine l (fun k => k ∈ ks ∨ ∃ x ∈ ws, wKey x = k ∧ Lrn ks ws (wUnder x)) (fun k hk => .inl hk) (fun x hx ih => .inr ⟨x, hx, rfl, ?_⟩)
    rcases ih with h | ⟨y, hy, e, ly⟩
    · exact Lrn.known _ h
    · rw [← e]; exact Lrn.wrap y hy ly
  · rintro (h | ⟨x, hx, rfl, l⟩)
    · exact Lrn.known k h
    · exact Lrn.wrap x hx l
theorem Lrn.noWrap {ks : List K2} (k : K2) : Lrn ks [] k ↔ k ∈ ks := by
  rw [Lrn.cases']
  simp
/-- Keys that rise, each right, few: they are right. -/
theorem knownB_of {ks : List K2} (h1 : ks.length ≤ 200) (h2 : Rise ks) (h3 : ∀ k ∈ ks, okK k.1 k.2 = true) : knownB ks = true := by
  unfold knownB
  simp only [Bool.and_eq_true, decide_eq_true_eq]
  refine ⟨h1, ?_⟩
  unfold allTo
  rw [List.all_eq_true]
  intro i hi
  have hi := List.mem_range.1 hi
  unfold okAt
  rw [kAt_get ks i hi, kAt_get ks (i - 1) (by omega)]
  simp only [Bool.and_eq_true, Bool.or_eq_true, decide_eq_true_eq]
  refine ⟨h3 _ (List.getElem_mem hi), ?_⟩
  by_cases e : i = 0
  · exact .inl e
  · exact .inr ((ah_iff _ _).2 (List.pairwise_iff_getElem.1 h2 (i - 1) i (by omega) hi (by omega)))
end Go.Proofs.Ytkkjpkldfllfiaa
