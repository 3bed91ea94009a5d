
/- Windows of numbers: what the model's loop lays down, one number at a time (mathematics alone). -/
import Derived.Test.YthfgiabkafdbdaaWinM
namespace Go.Proofs.Ythfgiabkafdbdaa.Wn

theorem up_len : ∀ (l : List Int) (a top : Int), Up l → (∀ x ∈ l, a < x ∧ x ≤ top) → (l.length : Int) ≤ max 0 (top - a)
  | [], _, _, _, _ => by simp; omega
  | x :: l, a, top, h, hx => by
    have h' := List.pairwise_cons.1 h
    have := up_len l x top h'.2 (fun y hy => ⟨h'.1 y hy, (hx y (by simp [hy])).2⟩)
    have := hx x (by simp)
    simp only [List.length_cons]
    omega
theorem WinOk.len {top : Int} {xs : List Int} (h : WinOk top xs) : xs.length ≤ 32 := by
  have := up_len xs (top - 32) top h.up (fun x hx => (h.all x hx).2)
  omega

def Ins (T n : Int) (xs : List Int) (i : Nat) (d : Bool) (out : List Int) : Prop :=
  Up out ∧ (∀ x, x ∈ out ↔ (x ∈ xs.take i ∧ T - 32 < x) ∨ (d = true ∧ x = n)) ∧ (d = false → ∀ x ∈ xs.take i, x < n) ∧ (d = true → ∀ x ∈ xs.drop i, n < x) ∧ (d = true → ∀ x ∈ out, x = n ∨ x ∈ xs.take i) ∧ out.length ≤ i + d.toNat
theorem Ins.start (T n : Int) (xs : List Int) : Ins T n xs 0 false [] := ⟨List.Pairwise.nil, by simp, by simp, by simp, by simp, by simp⟩
theorem take_mem {xs : List Int} {i : Nat} (hi : i < xs.length) (x : Int) : x ∈ xs.take (i + 1) ↔ x ∈ xs.take i ∨ x = xs[i] := by
  rw [List.take_succ_eq_append_getElem hi, List.mem_append, List.mem_singleton]
theorem up_take_lt {xs : List Int} (h : Up xs) {i : Nat} (hi : i < xs.length) : ∀ x ∈ xs.take i, x < xs[i] := by
  intro x hx
  obtain ⟨j, hj, rfl⟩ := List.getElem_of_mem hx
  rw [List.length_take] at hj
  rw [List.getElem_take]
  exact h.get (by omega) hi
theorem up_drop_gt {xs : List Int} (h : Up xs) {i : Nat} (hi : i < xs.length) : ∀ x ∈ xs.drop (i + 1), xs[i] < x := by
  intro x hx
  obtain ⟨j, hj, rfl⟩ := List.getElem_of_mem hx
  rw [List.length_drop] at hj
  rw [List.getElem_drop]
  exact h.get (by omega) (by omega)
theorem drop_sub {xs : List Int} {i : Nat} {x : Int} (h : x ∈ xs.drop (i + 1)) : x ∈ xs.drop i := by
  rw [← List.drop_drop] at h
  exact List.mem_of_mem_drop h
theorem get_drop {xs : List Int} {i : Nat} (hi : i < xs.length) : xs[i] ∈ xs.drop i := by
  have e := List.drop_eq_getElem_cons hi
  have : xs[i] ∈ xs[i] :: xs.drop (i + 1) := List.mem_cons_self
  rwa [← e] at this
/-- n goes ahead of a greater one. -/
theorem Ins.here {T n : Int} {xs out : List Int} {i : Nat} (h : Ins T n xs i false out) (hu : Up xs) (hi : i < xs.length) (hn : n < xs[i]) (hT : T - 32 < n) : Ins T n xs (i + 1) true (out ++ [n] ++ [xs[i]]) := by
  obtain ⟨h1, h2, h3, _, _, h6⟩ := h
  have hb : ∀ x ∈ out, x < n := fun x hx => by
    rcases (h2 x).1 hx with e | e
    · exact h3 rfl x e.1
    · cases e.1
  refine ⟨(h1.push hb).push fun x hx => ?_, fun x => ?_, fun e => (by cases e), fun _ x hx => ?_, fun _ x hx => ?_, ?_⟩
  · rcases List.mem_append.1 hx with e | e
    · have := hb x e; omega
    · rw [List.mem_singleton.1 e]; exact hn
  · rw [List.mem_append, List.mem_append, h2 x, take_mem hi, List.mem_singleton, List.mem_singleton]
    constructor
    · rintro ((e | e) | e)
      · rcases e with e | e
        · exact .inl ⟨.inl e.1, e.2⟩
        · cases e.1
      · exact .inr ⟨rfl, e⟩
      · exact .inl ⟨.inr e, by omega⟩
    · rintro (⟨e | e, e'⟩ | e)
      · exact .inl (.inl (.inl ⟨e, e'⟩))
      · exact .inr e
      · exact .inl (.inr e.2)
  · have := up_drop_gt hu hi x hx; omega
  · rw [take_mem hi]
    rcases List.mem_append.1 hx with e | e
    · rcases List.mem_append.1 e with e | e
      · rcases (h2 x).1 e with e | e
        · exact .inr (.inl e.1)
        · exact .inl e.2
      · exact .inl (List.mem_singleton.1 e)
    · exact .inr (.inr (List.mem_singleton.1 e))
  · simp at h6 ⊢; omega
theorem Ins.next {T n : Int} {xs out : List Int} {i : Nat} {d : Bool} (h : Ins T n xs i d out) (hu : Up xs) (hi : i < xs.length) (hd : d = false → xs[i] < n) (hT : T - 32 < xs[i]) : Ins T n xs (i + 1) d (out ++ [xs[i]]) := by
  obtain ⟨h1, h2, h3, h4, h5, h6⟩ := h
  have hdrop : xs[i] ∈ xs.drop i := get_drop hi
  refine ⟨h1.push fun x hx => ?_, fun x => ?_, fun e x hx => ?_, fun e x hx => h4 e x (drop_sub hx), fun e x hx => ?_, ?_⟩
  · rcases (h2 x).1 hx with e | e
    · exact up_take_lt hu hi x e.1
    · rw [e.2]; exact h4 e.1 _ hdrop
  · rw [List.mem_append, h2 x, take_mem hi, List.mem_singleton]
    constructor
    · rintro ((e | e) | e)
      · exact .inl ⟨.inl e.1, e.2⟩
      · exact .inr e
      · exact .inl ⟨.inr e, by omega⟩
    · rintro (⟨e | e, e'⟩ | e)
      · exact .inl (.inl ⟨e, e'⟩)
      · exact .inr e
      · exact .inl (.inr e)
  · rcases (take_mem hi x).1 hx with e' | e'
    · exact h3 e x e'
    · rw [e']; exact hd e
  · rw [take_mem hi]
    rcases List.mem_append.1 hx with e' | e'
    · rcases h5 e x e' with e'' | e''
      · exact .inl e''
      · exact .inr (.inl e'')
    · exact .inr (.inr (List.mem_singleton.1 e'))
  · simp; omega
theorem Ins.skip {T n : Int} {xs out : List Int} {i : Nat} (h : Ins T n xs i false out) (hi : i < xs.length) (hn : xs[i] < n) (hT : ¬ T - 32 < xs[i]) : Ins T n xs (i + 1) false out := by
  obtain ⟨h1, h2, h3, h4, h5, h6⟩ := h
  refine ⟨h1, fun x => ?_, fun e x hx => ?_, fun e => (by cases e), fun e => (by cases e), by simp at h6 ⊢; omega⟩
  · rw [h2 x, take_mem hi]
    constructor
    · rintro (e | e)
      · exact .inl ⟨.inl e.1, e.2⟩
      · exact .inr e
    · rintro (⟨e | e, e'⟩ | e)
      · exact .inl ⟨e, e'⟩
      · subst e; exact absurd e' hT
      · exact .inr e
  · rcases (take_mem hi x).1 hx with e' | e'
    · exact h3 e x e'
    · rw [e']; exact hn
theorem Ins.bigger {T n : Int} {xs out : List Int} {i : Nat} (h : Ins T n xs i true out) (hi : i < xs.length) : n < xs[i] :=
  h.2.2.2.1 rfl _ (get_drop hi)
theorem Ins.end {top n : Int} {xs out : List Int} {d : Bool} (h : Ins (max top n) n xs xs.length d out) (hw : WinOk top xs) (ht : takes top xs n) : (if d then out else out ++ [n]) = accX top xs n := by
  obtain ⟨h1, h2, h3, h4, h5, h6⟩ := h
  rw [List.take_length] at *
  cases d with
  | true =>
    rw [if_pos rfl]
    refine accX_of hw ht h1 fun x => ?_
    rw [h2 x]
    constructor
    · rintro (e | e)
      · exact .inr e
      · exact .inl e.2
    · rintro (e | e)
      · exact .inr ⟨rfl, e⟩
      · exact .inl e
  | false =>
    have hb : ∀ x ∈ out, x < n := fun x hx => by
      rcases (h2 x).1 hx with e | e
      · exact h3 rfl x e.1
      · cases e.1
    rw [if_neg (by simp)]
    refine accX_of hw ht (h1.push hb) fun x => ?_
    rw [List.mem_append, h2 x, List.mem_singleton]
    constructor
    · rintro ((e | e) | e)
      · exact .inr e
      · cases e.1
      · exact .inl e
    · rintro (e | e)
      · exact .inr e
      · exact .inl (.inl e)
end Go.Proofs.Ythfgiabkafdbdaa.Wn
