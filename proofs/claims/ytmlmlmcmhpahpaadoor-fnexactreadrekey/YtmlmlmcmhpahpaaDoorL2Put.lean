
/- The contract of the model's l2Put: rising keys, with one more. -/
import Derived.Test.YtmlmlmcmhpahpaaDoorL2
import Derived.Test.YtmlmlmcmhpahpaaDoorNk
import Derived.Deep.MidRow
namespace Go.Proofs.YtmlmlmcmhpahpaaDoor
open Go.RowKit

theorem infoKey : (Tryd.prog.info? 61).map (fun i => (i.zero, i.size, i.bytes)) = some (some (.agg #[.int .i64 0, .int .i64 0]), 2, 16) := by kernel_rfl
theorem KSeg.take {g off : Nat} {ks : List (Int × Int)} {W : World} (h : KSeg g off ks W) (n : Nat) : KSeg g off (ks.take n) W := fun i hi => by
  have hi' : i < ks.length := by simp at hi; omega
  have := h i hi'
  simpa using this
theorem KSeg.drop {g off : Nat} {ks : List (Int × Int)} {W : World} (h : KSeg g off ks W) (n : Nat) : KSeg g (off + n * 2) (ks.drop n) W := fun i hi => by
  have hi' : n + i < ks.length := by simp at hi; omega
  have := h (n + i) hi'
  have e : off + n * 2 + i * 2 = off + (n + i) * 2 := by omega
  rw [e]
  simpa using this

/-- How many are ahead of k, from the first on. -/
def aheadN (ks : List (Int × Int)) (x y : Int) : Nat := (ks.takeWhile fun k => aheadB k.1 k.2 x y).length
def putL (ks : List (Int × Int)) (x y : Int) : List (Int × Int) :=
  if ks[aheadN ks x y]? = some (x, y) then ks else ks.take (aheadN ks x y) ++ [(x, y)] ++ ks.drop (aheadN ks x y)
theorem aheadN_le (ks : List (Int × Int)) (x y : Int) : aheadN ks x y ≤ ks.length := (List.takeWhile_sublist _).length_le
theorem aheadN_eq (ks : List (Int × Int)) (x y : Int) : ∀ n, n ≤ ks.length → (∀ i (hi : i < ks.length), i < n → aheadB ks[i].1 ks[i].2 x y = true) → (∀ (h : n < ks.length), aheadB ks[n].1 ks[n].2 x y = false) → aheadN ks x y = n := by
  induction ks with
  | nil => intro n hn _ _; simp at hn; subst hn; rfl
  | cons k ks ih =>
    intro n hn h1 h2
    cases n with
    | zero =>
      have := h2 (by simp)
      simp at this
      simp [aheadN, this]
    | succ n =>
      have h0 := h1 0 (by simp) (by omega)
      simp at h0
      have := ih n (by simpa using hn) (fun i hi hin => by have := h1 (i + 1) (by simpa using hi) (by omega); simpa using this) (fun h => by have := h2 (by simpa using h); simpa using this)
      simp [aheadN, h0] at this ⊢
      exact this

theorem cell_two_new (w : World) (x y : Int) (t : TypeId) : ∀ j u, [Value.int .i64 x, .int .i64 y][j]? = some u → (w.alloc (.cells #[.int .i64 x, .int .i64 y] t)).cell? ((⟨w.heap.size, 0, none⟩ : Addr).add j) = some u := by
  intro j u hu
  rw [Addr.add_mid, Nat.zero_add]
  match j, hu with
  | 0, hu => simp at hu; subst hu; simp
  | 1, hu => simp at hu; subst hu; simp
theorem emptyK (w : World) (B : Nat) (h : B ≤ w.heap.size) : (w.alloc (.cells #[] 61)).ownsRow B 61 2 (.slice (some ⟨w.heap.size, 0, none⟩) 0 0) 0 [] := World.ownsRow_lit (base := B) (size := 2) w #[] 0 h (by decide) rfl
theorem KSeg.below {b off : Nat} {ks : List (Int × Int)} {W W' : World} (h : KSeg b off ks W) (hb : Below W.heap.size W W') (hlt : b < W.heap.size) : KSeg b off ks W' := h.kept (hb.block b hlt)

/-- Behind the first of l2Put's appends. -/
theorem put_a {w W wA : World} {g k : Nat} {x y : Int} {ks : List (Int × Int)} {v1 : Value} (hBW : Below w.heap.size w W)
    (hs : KSeg g 0 ks W) (f0 : W.cell? ⟨w.heap.size, 0, none⟩ = some (.int .i64 x)) (f1 : W.cell? ⟨w.heap.size, 1, none⟩ = some (.int .i64 y)) (hg : g < w.heap.size)
    (own1 : wA.ownsRow w.heap.size 61 2 v1 (0 + k) ([] ++ kcells (ks.take k))) (gr1 : (W.alloc (.cells #[] 61)).grownBy wA (Value.slice (some ⟨W.heap.size, 0, none⟩) 0 0).ownBlock) :
    wA.ownsRow w.heap.size 61 2 v1 k (kcells (ks.take k)) ∧ wA.cell? ⟨w.heap.size, 0, none⟩ = some (.int .i64 x) ∧ wA.cell? ⟨w.heap.size, 1, none⟩ = some (.int .i64 y) ∧ Hid (KSeg g 0 ks wA) ∧ w.heap.size ≤ wA.heap.size ∧ Hid (Below w.heap.size w wA) := by
  have hlt := World.block_lt_of_cell? _ _ f0
  have hsW := hBW.size
  have hs1 := gr1.size
  simp at hlt hs1
  have hne : ∀ (b : Nat), b < W.heap.size → some b ≠ (Value.slice (some ⟨W.heap.size, 0, none⟩) 0 0).ownBlock := fun b hb e => by simp [Value.ownBlock] at e; omega
  refine ⟨by simpa using own1, gr1.cell ((World.grownBy_alloc W _ none).cell f0 (by simp)) (hne _ hlt), gr1.cell ((World.grownBy_alloc W _ none).cell f1 (by simp)) (hne _ hlt), ?_, by omega, ?_⟩
  · exact hs.kept ((gr1.block g (by simp; omega) (hne g (by omega))).trans (Below.heap_alloc _ _ _ (by omega)))
  · exact (hBW.alloc hsW _).grown gr1 (by simp; omega) (fun j e => by simp [Value.ownBlock] at e; omega)
/-- Behind the second of them. -/
theorem put_b {w wA wB : World} {g k : Nat} {ks : List (Int × Int)} {v1 : Value} {o : Obj} (hB : Below w.heap.size w wA) (own1 : wA.ownsRow w.heap.size 61 2 v1 k (kcells (ks.take k)))
    (hs : KSeg g 0 ks wA) (hg : g < w.heap.size) (gr2 : (wA.alloc o).grownBy wB v1.ownBlock) : Hid (KSeg g 0 ks wB) ∧ w.heap.size ≤ wB.heap.size ∧ Hid (Below w.heap.size w wB) := by
  have hsA := hB.size
  have hs2 := gr2.size
  simp at hs2
  refine ⟨?_, by omega, ?_⟩
  · exact hs.kept ((gr2.block g (by simp; omega) (fun e => by have := (World.ownsRow.lt own1 g e.symm).1; omega)).trans (Below.heap_alloc _ _ _ (by omega)))
  · exact (hB.alloc hsA _).grown gr2 (by simp; omega) (fun j e => (World.ownsRow.lt own1 j e).1)

end Go.Proofs.YtmlmlmcmhpahpaaDoor
