
/- Lists of structs with a list in each, in memory: members and mail. -/
import Derived.Test.YthfgiabkafdbdaaWlM
import Derived.Test.YthfgiabkafdbdaaMem2
import Derived.Test.YthfgiabkafdbdaaBox3
namespace Go.Proofs.Ythfgiabkafdbdaa
open Go.RowKit

/-- In block b from offset 'off' on lie structs of three cells: two numbers, and a list of which P holds. -/
def ESeg {α : Type} (P : Value → List α → World → Prop) (b off : Nat) (ds : List (Int × Int × List α)) (W : World) : Prop :=
  ∀ i (hi : i < ds.length), ∃ u, W.cell? ⟨b, off + i * 3, none⟩ = some (.int .i64 ds[i].1) ∧ W.cell? ⟨b, off + i * 3 + 1, none⟩ = some (.int .i64 ds[i].2.1) ∧ W.cell? ⟨b, off + i * 3 + 2, none⟩ = some u ∧ P u ds[i].2.2 W
/-- A list of such structs. -/
def ERd {α : Type} (P : Value → List α → World → Prop) (v : Value) (ds : List (Int × Int × List α)) (W : World) : Prop :=
  (∃ a c, v = .slice a 0 c ∧ ds = []) ∨ ∃ b off c, v = .slice (some ⟨b, off, none⟩) ds.length c ∧ b < W.heap.size ∧ ds.length ≤ maxLen ∧ ESeg P b off ds W
def Stable {α : Type} (P : Value → List α → World → Prop) : Prop := ∀ u l W W', P u l W → Below W.heap.size W W' → P u l W'
theorem ESeg.since {α : Type} {P : Value → List α → World → Prop} (hP : Stable P) {b off : Nat} {ds : List (Int × Int × List α)} {W W' : World} (h : ESeg P b off ds W) (hb : Below W.heap.size W W') : ESeg P b off ds W' := fun i hi => by
  obtain ⟨u, h1, h2, h3, h4⟩ := h i hi
  exact ⟨u, cell_since h1 hb, cell_since h2 hb, cell_since h3 hb, hP _ _ _ _ h4 hb⟩
theorem ERd.since {α : Type} {P : Value → List α → World → Prop} (hP : Stable P) {v : Value} {ds : List (Int × Int × List α)} {W W' : World} (h : ERd P v ds W) (hb : Below W.heap.size W W') : ERd P v ds W' := by
  rcases h with h | ⟨b, off, c, e, hl, hm, hs⟩
  · exact .inl h
  · exact .inr ⟨b, off, c, e, by have := hb.size; omega, hm, hs.since hP hb⟩
theorem ERd.len {α : Type} {P : Value → List α → World → Prop} {v : Value} {ds : List (Int × Int × List α)} {W : World} (h : ERd P v ds W) : ∃ a c, v = .slice a ds.length c ∧ ds.length ≤ maxLen ∧ (ds = [] ∨ ∃ b off, a = some ⟨b, off, none⟩ ∧ b < W.heap.size ∧ ESeg P b off ds W) := by
  rcases h with ⟨a, c, rfl, rfl⟩ | ⟨b, off, c, rfl, hl, hm, hs⟩
  · exact ⟨_, _, rfl, Nat.zero_le _, .inl rfl⟩
  · exact ⟨_, _, rfl, hm, .inr ⟨b, off, rfl, hl, hs⟩⟩

/-- Members of the program's, their keys at or beyond B. -/
abbrev Mems (B : Nat) (v : Value) (ds : List MD) (W : World) : Prop := ERd (fun u l W => Keys B u l W) v ds W
abbrev Mails (B : Nat) (v : Value) (ls : List LD) (W : World) : Prop := ERd (fun u l W => Wraps B u l W) v ls W
theorem stableK (B : Nat) : Stable (fun u (l : List (Int × Int)) W => Keys B u l W) := fun _ _ _ _ h hb => h.below hb (fun k e => (h.lt k e).2)
theorem stableW (B : Nat) : Stable (fun u (l : List W4) W => Wraps B u l W) := fun _ _ _ _ h hb => wrapsSince h hb

/-- The cells of such structs. -/
def ecells (xs : List (Int × Int × Value)) : List Value := xs.flatMap fun x => [.int .i64 x.1, .int .i64 x.2.1, x.2.2]
theorem ecells_length (xs : List (Int × Int × Value)) : (ecells xs).length = xs.length * 3 := by
  induction xs with
  | nil => rfl
  | cons k ks ih => simp only [ecells, List.flatMap_cons, List.length_append, List.length_cons, List.length_nil] at ih ⊢; omega
theorem ecells_get (xs : List (Int × Int × Value)) : ∀ i (hi : i < xs.length), (ecells xs)[i * 3]? = some (.int .i64 xs[i].1) ∧ (ecells xs)[i * 3 + 1]? = some (.int .i64 xs[i].2.1) ∧ (ecells xs)[i * 3 + 2]? = some xs[i].2.2 := by
  induction xs with
  | nil => intro i hi; simp at hi
  | cons k ks ih =>
    intro i hi
    match i, hi with
    | 0, _ => simp [ecells]
    | i + 1, hi =>
      have := ih i (by simpa using hi)
      have e1 : (i + 1) * 3 = i * 3 + 1 + 1 + 1 := by omega
      have e2 : (i + 1) * 3 + 1 = i * 3 + 1 + 1 + 1 + 1 := by omega
      have e3 : (i + 1) * 3 + 2 = i * 3 + 2 + 1 + 1 + 1 := by omega
      rw [e3, e2, e1]
      simpa [ecells] using this
theorem ecells_set (l : List (Int × Int × Value)) : ∀ (i : Nat) (a b : Int) (u : Value), i < l.length → (((ecells l).set (i * 3) (.int .i64 a)).set (i * 3 + 1) (.int .i64 b)).set (i * 3 + 2) u = ecells (l.set i (a, b, u)) := by
  induction l with
  | nil => intro i a b u h; simp at h
  | cons k l ih =>
    intro i a b u h
    match i, h with
    | 0, _ => simp [ecells]
    | i + 1, h =>
      have := ih i a b u (by simpa using h)
      have e1 : (i + 1) * 3 = i * 3 + 1 + 1 + 1 := by omega
      have e2 : (i + 1) * 3 + 1 = i * 3 + 1 + 1 + 1 + 1 := by omega
      have e3 : (i + 1) * 3 + 2 = i * 3 + 2 + 1 + 1 + 1 := by omega
      rw [e3, e2, e1]
      simpa [ecells] using this
theorem three_len (x y z : Value) (n : Nat) : ((List.range n).flatMap fun _ => [x, y, z]).length = n * 3 := by
  induction n with
  | zero => rfl
  | succ n ih => rw [List.range_succ, List.flatMap_append, List.length_append, ih]; simp; omega
theorem made_three (x y z : Value) (n : Nat) : (madeCells #[x, y, z] (n * 3)).toList = (List.range n).flatMap fun _ => [x, y, z] := by
  apply List.ext_getElem?
  intro j
  have hl : ((List.range n).flatMap fun _ => [x, y, z]).length = n * 3 := three_len x y z n
  have hg : ∀ i, i < n → ((List.range n).flatMap fun _ => [x, y, z])[i * 3]? = some x ∧ ((List.range n).flatMap fun _ => [x, y, z])[i * 3 + 1]? = some y ∧ ((List.range n).flatMap fun _ => [x, y, z])[i * 3 + 2]? = some z := by
    clear hl
    induction n with
    | zero => intro i hi; omega
    | succ n ih =>
      intro i hi
      have hl : ((List.range n).flatMap fun _ => [x, y, z]).length = n * 3 := three_len x y z n
      rw [List.range_succ, List.flatMap_append]
      by_cases h : i < n
      · have := ih i h
        refine ⟨?_, ?_, ?_⟩
        · rw [List.getElem?_append_left (by omega)]; exact this.1
        · rw [List.getElem?_append_left (by omega)]; exact this.2.1
        · rw [List.getElem?_append_left (by omega)]; exact this.2.2
      · obtain rfl : i = n := by omega
        refine ⟨?_, ?_, ?_⟩
        · rw [List.getElem?_append_right (by omega), hl]; simp
        · rw [List.getElem?_append_right (by omega), hl]; simp
        · rw [List.getElem?_append_right (by omega), hl]; simp
  by_cases hj : j < n * 3
  · have hd : j = j / 3 * 3 + j % 3 := by omega
    have h := hg (j / 3) (by omega)
    have h2 : j % 3 = 0 ∨ j % 3 = 1 ∨ j % 3 = 2 := by omega
    rcases h2 with h2 | h2 | h2
    · have e : j / 3 * 3 = j := by omega
      rw [e] at h
      rw [h.1]
      simp [madeCells, hj, h2]
    · have e : j / 3 * 3 + 1 = j := by omega
      rw [e] at h
      rw [h.2.1]
      simp [madeCells, hj, h2]
    · have e : j / 3 * 3 + 2 = j := by omega
      rw [e] at h
      rw [h.2.2]
      simp [madeCells, hj, h2]
  · have h2 : ((List.range n).flatMap fun _ => [x, y, z])[j]? = none := List.getElem?_eq_none (by omega)
    rw [h2]
    simp [madeCells, hj]
theorem ecells_zero (n : Nat) : ecells (List.replicate n (0, 0, .slice none 0 0)) = (List.range n).flatMap fun _ => [.int .i64 0, .int .i64 0, .slice none 0 0] := by
  induction n with
  | zero => rfl
  | succ n ih =>
    rw [List.range_succ, List.flatMap_append, ← ih, List.replicate_succ']
    simp [ecells]

/-- A row of such structs, of the call's own. -/
def ERow (t : TypeId) (B : Nat) (v : Value) (xs : List (Int × Int × Value)) (W : World) : Prop := W.ownsRow B t 3 v xs.length (ecells xs)
theorem ERow.since {t : TypeId} {B : Nat} {v : Value} {xs : List (Int × Int × Value)} {W W' : World} (h : ERow t B v xs W) (hb : Below W.heap.size W W') : ERow t B v xs W' :=
  RowF.since (r := ⟨B, t, 3, v, xs.length, ecells xs⟩) h hb
theorem ERow.lt {t : TypeId} {B : Nat} {v : Value} {xs : List (Int × Int × Value)} {W : World} (h : ERow t B v xs W) : ∀ k, v.ownBlock = some k → B ≤ k ∧ k < W.heap.size := World.ownsRow.lt h
theorem ERow.form {t : TypeId} {B g n c : Nat} {xs : List (Int × Int × Value)} {W : World} (h : ERow t B (.slice (some ⟨g, 0, none⟩) n c) xs W) :
    g < W.heap.size ∧ (∀ i (hi : i < xs.length), W.cell? ⟨g, i * 3, none⟩ = some (.int .i64 xs[i].1) ∧ W.cell? ⟨g, i * 3 + 1, none⟩ = some (.int .i64 xs[i].2.1) ∧ W.cell? ⟨g, i * 3 + 2, none⟩ = some xs[i].2.2) ∧ ∀ o, W.frozen? ⟨g, o, none⟩ = false := by
  obtain ⟨_, h2⟩ := h
  rcases h2 with ⟨e, hn⟩ | ⟨g', cap, cur, e, hb, hg, h1, h3, h4, h5⟩
  · cases e
  · injection e with e e1 e2
    injection e with e
    injection e with e
    subst e
    refine ⟨(Array.getElem?_eq_some_iff.1 hg).1, fun i hi => ?_, fun o => by simp [World.frozen?, hg]⟩
    have hk := ecells_get xs i hi
    have c1 : cur[i * 3]? = some (.int .i64 xs[i].1) := by
      have h := hk.1
      rw [← h5, List.getElem?_take_of_lt (by omega)] at h
      simpa using h
    have c2 : cur[i * 3 + 1]? = some (.int .i64 xs[i].2.1) := by
      have h := hk.2.1
      rw [← h5, List.getElem?_take_of_lt (by omega)] at h
      simpa using h
    have c3 : cur[i * 3 + 2]? = some xs[i].2.2 := by
      have h := hk.2.2
      rw [← h5, List.getElem?_take_of_lt (by omega)] at h
      simpa using h
    exact ⟨by simp [World.cell?, hg, c1], by simp [World.cell?, hg, c2], by simp [World.cell?, hg, c3]⟩
theorem ERow.stored {t : TypeId} {B g n cap : Nat} {l : List (Int × Int × Value)} {W : World} (hn : l.length = n) (h : ERow t B (.slice (some ⟨g, 0, none⟩) n cap) l W) (i : Nat) (hi : i < l.length) (a b : Int) (u : Value) :
    ERow t B (.slice (some ⟨g, 0, none⟩) n cap) (l.set i (a, b, u)) (((W.setCell ⟨g, i * 3, none⟩ (.int .i64 a)).setCell ⟨g, i * 3 + 1, none⟩ (.int .i64 b)).setCell ⟨g, i * 3 + 2, none⟩ u) ∧
      W.grownBy (((W.setCell ⟨g, i * 3, none⟩ (.int .i64 a)).setCell ⟨g, i * 3 + 1, none⟩ (.int .i64 b)).setCell ⟨g, i * 3 + 2, none⟩ u) (some g) := by
  subst hn
  have h1 := World.ownsRow.stored h (i * 3) (.int .i64 a)
  have h2 := h1.1.stored (i * 3 + 1) (.int .i64 b)
  have h3 := h2.1.stored (i * 3 + 2) u
  rw [ecells_set _ _ _ _ _ hi] at h3
  refine ⟨?_, (h1.2.trans h2.2).trans h3.2⟩
  unfold ERow
  rw [List.length_set]
  exact h3.1
/-- Rows of unlike types never share a block. -/
theorem rows_apart {t t' : TypeId} {B C sz' n' g n c : Nat} {xs : List (Int × Int × Value)} {u : Value} {ys : List Value} {W : World} (h : ERow t B (.slice (some ⟨g, 0, none⟩) n c) xs W) (h' : W.ownsRow C t' sz' u n' ys) (ht : t ≠ t') : u.ownBlock ≠ some g := fun e => by
  rcases h.2 with ⟨hv, _⟩ | ⟨g1, cap, cur, hv, _, hgk, _⟩
  · cases hv
  · injection hv with e1
    injection e1 with e1
    injection e1 with e1
    subst e1
    rcases h'.2 with ⟨hv', _⟩ | ⟨g2, cap', cur', hv', _, hgk', _⟩
    · rw [hv'] at e
      simp [Value.ownBlock] at e
    · rw [hv'] at e
      simp [Value.ownBlock] at e
      subst e
      rw [hgk] at hgk'
      simp at hgk'
      exact ht hgk'.2
/-- The row when i of the structs have been laid. -/
def partE (xs : List (Int × Int × Value)) (n : Nat) : List (Int × Int × Value) := xs ++ List.replicate (n - xs.length) (0, 0, .slice none 0 0)
theorem partE_length (xs : List (Int × Int × Value)) (n : Nat) (h : xs.length ≤ n) : (partE xs n).length = n := by simp [partE]; omega
theorem partE_set (xs : List (Int × Int × Value)) (n : Nat) (x : Int × Int × Value) (h : xs.length < n) : (partE xs n).set xs.length x = partE (xs ++ [x]) n := by
  unfold partE
  have e : n - xs.length = (n - (xs ++ [x]).length) + 1 := by simp; omega
  rw [e, List.replicate_succ, List.set_append_right _ _ (Nat.le_refl _), Nat.sub_self, List.set_cons_zero, List.append_assoc]
  rfl
end Go.Proofs.Ythfgiabkafdbdaa
