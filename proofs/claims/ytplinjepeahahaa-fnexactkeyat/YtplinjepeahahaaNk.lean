
/- The cells of keys, as an append wants them. -/
import Derived.Test.YtplinjepeahahaaKeys
import Derived.Deep.MidRow
namespace Go.Proofs.Ytplinjepeahahaa
open Go.RowKit

/-- The cells of keys, as an append wants them. -/
theorem news_keys {g off : Nat} {ks : List (Int × Int)} {W : World} (h : KSeg g off ks W) : ∀ j u, (kcells ks)[j]? = some u → W.cell? ((⟨g, off, none⟩ : Addr).add j) = some u := by
  intro j u hu
  have hj : j < ks.length * 2 := by
    have := (List.getElem?_eq_some_iff.1 hu).1
    rwa [kcells_length] at this
  rw [Addr.add_mid]
  have h2 : j = j / 2 * 2 ∨ j = j / 2 * 2 + 1 := by omega
  have hi : j / 2 < ks.length := by omega
  obtain ⟨e1, e2⟩ := kcells_get ks (j / 2) hi
  obtain ⟨c1, c2⟩ := h (j / 2) hi
  rcases h2 with e | e
  · rw [e] at hu ⊢
    rw [e1] at hu
    rw [← hu]
    exact c1
  · rw [e] at hu ⊢
    rw [e2] at hu
    rw [← hu, ← Nat.add_assoc]
    exact c2
theorem one_kcells (ks : List (Int × Int)) : ∀ u ∈ kcells ks, u.oneCell' = true := by
  intro u hu
  simp only [kcells, List.mem_flatMap] at hu
  obtain ⟨x, _, h⟩ := hu
  simp at h
  rcases h with rfl | rfl <;> rfl
end Go.Proofs.Ytplinjepeahahaa
