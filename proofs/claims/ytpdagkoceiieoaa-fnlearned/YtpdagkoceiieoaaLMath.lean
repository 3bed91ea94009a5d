/- What can be learned: it grows with what is known and what is wrapped, is learned for good, in whatever order wraps come. -/
import Derived.Test.YtpdagkoceiieoaaLBoth
namespace Go.Proofs.Ytpdagkoceiieoaa
open Go.RowKit

theorem Lrn.grows {ks ks' : List K2} {ws ws' : List W4} (h1 : ∀ k ∈ ks, k ∈ ks') (h2 : ∀ x ∈ ws, x ∈ ws') {k : K2} (h : Lrn ks ws k) : Lrn ks' ws' k := by
  induction h with
  | known k hk => exact .known k (h1 k hk)
  | wrap x hx _ ih => exact .wrap x (h2 x hx) ih
theorem Lrn.order {ks : List K2} {ws ws' : List W4} (h : ∀ x, x ∈ ws ↔ x ∈ ws') (k : K2) : Lrn ks ws k ↔ Lrn ks ws' k :=
  ⟨Lrn.grows (fun _ h => h) fun x => (h x).1, Lrn.grows (fun _ h => h) fun x => (h x).2⟩
theorem Lrn.forGood {ks out : List K2} {ws : List W4} (h : ∀ k, k ∈ out ↔ Lrn ks ws k) (k : K2) : Lrn out ws k ↔ Lrn ks ws k := by
  constructor
  · intro l
    induction l with
    | known k hk => exact (h k).1 hk
    | wrap x hx _ ih => exact .wrap x hx ih
  · exact fun l => .known k ((h k).2 l)
theorem Lrn.cases' {ks : List K2} {ws : List W4} (k : K2) : Lrn ks ws k ↔ k ∈ ks ∨ ∃ x ∈ ws, wKey x = k ∧ Lrn ks ws (wUnder x) := by
  constructor
  · intro l
    cases l with
    | known _ hk => exact .inl hk
    | wrap x hx l => exact .inr ⟨x, hx, rfl, l⟩
  · rintro (h | ⟨x, hx, rfl, l⟩)
    · exact .known k h
    · exact .wrap x hx l
theorem Lrn.noWrap {ks : List K2} (k : K2) : Lrn ks [] k ↔ k ∈ ks := by
  rw [Lrn.cases']
  simp
/-- Keys that rise, each right, few: they are right. -/
theorem knownB_of {ks : List K2} (h1 : ks.length ≤ 200) (h2 : Rise ks) (h3 : ∀ k ∈ ks, okK k.1 k.2 = true) : knownB ks = true := by
  unfold knownB
  simp only [Bool.and_eq_true, decide_eq_true_eq]
  refine ⟨h1, ?_⟩
  unfold allTo
  rw [List.all_eq_true]
  intro i hi
  have hi := List.mem_range.1 hi
  unfold okAt
  rw [kAt_get ks i hi, kAt_get ks (i - 1) (by omega)]
  simp only [Bool.and_eq_true, Bool.or_eq_true, decide_eq_true_eq]
  refine ⟨h3 _ (List.getElem_mem hi), ?_⟩
  by_cases e : i = 0
  · exact .inl e
  · exact .inr ((ah_iff _ _).2 (List.pairwise_iff_getElem.1 h2 (i - 1) i (by omega) hi (by omega)))
end Go.Proofs.Ytpdagkoceiieoaa
