
/- Sets of keys as lists that rise; what can be learned. -/
import Derived.Test.YtmlmlmcmhpahpaaDoorL2Put
import Derived.Test.YtmlmlmcmhpahpaaDoorWraps
namespace Go.Proofs.YtmlmlmcmhpahpaaDoor
open Go.RowKit

abbrev K2 := Int × Int
/-- One key is ahead of another one. -/
def Ah (a b : K2) : Prop := a.1 < b.1 ∨ a.1 = b.1 ∧ a.2 < b.2
theorem ah_iff (a b : K2) : aheadB a.1 a.2 b.1 b.2 = true ↔ Ah a b := by simp [aheadB, Ah]
theorem Ah.irr (a : K2) : ¬ Ah a a := by unfold Ah; omega
theorem Ah.trans {a b c : K2} (h : Ah a b) (k : Ah b c) : Ah a c := by unfold Ah at *; omega
theorem Ah.tri (a b : K2) : Ah a b ∨ a = b ∨ Ah b a := by
  obtain ⟨a1, a2⟩ := a; obtain ⟨b1, b2⟩ := b
  simp only [Ah, Prod.mk.injEq]
  omega
/-- Keys that rise. -/
def Rise (ks : List K2) : Prop := ks.Pairwise Ah

/-- Two lists that rise with the same members are one. -/
theorem Rise.eq : ∀ {a b : List K2}, Rise a → Rise b → (∀ x, x ∈ a ↔ x ∈ b) → a = b
  | [], [], _, _, _ => rfl
  | [], y :: b, _, _, h => by have := (h y).2 (by simp); simp at this
  | x :: a, [], _, _, h => by have := (h x).1 (by simp); simp at this
  | x :: a, y :: b, ha, hb, h => by
    have ha' := List.pairwise_cons.1 ha
    have hb' := List.pairwise_cons.1 hb
    have e : x = y := by
      rcases Ah.tri x y with t | t | t
      · have := (h x).1 (by simp)
        rcases List.mem_cons.1 this with e | e
        · exact e
        · exact absurd ((hb'.1 x e).trans t) (Ah.irr _)
      · exact t
      · have := (h y).2 (by simp)
        rcases List.mem_cons.1 this with e | e
        · exact e.symm
        · exact absurd ((ha'.1 y e).trans t) (Ah.irr _)
    subst e
    have hx : x ∉ a := fun m => Ah.irr _ (ha'.1 x m)
    have hy : x ∉ b := fun m => Ah.irr _ (hb'.1 x m)
    refine congrArg (x :: ·) (Rise.eq ha'.2 hb'.2 fun z => ⟨fun m => ?_, fun m => ?_⟩)
    · rcases List.mem_cons.1 ((h z).1 (List.mem_cons_of_mem _ m)) with e | e
      · subst e; exact absurd m hx
      · exact e
    · rcases List.mem_cons.1 ((h z).2 (List.mem_cons_of_mem _ m)) with e | e
      · subst e; exact absurd m hy
      · exact e

def putR : List K2 → K2 → List K2
  | [], k => [k]
  | a :: l, k => if aheadB a.1 a.2 k.1 k.2 then a :: putR l k else if a = k then a :: l else k :: a :: l
theorem putL_eq (ks : List K2) (k : K2) : putL ks k.1 k.2 = putR ks k := by
  induction ks with
  | nil => rfl
  | cons a l ih =>
    by_cases h : aheadB a.1 a.2 k.1 k.2 = true
    · have e : aheadN (a :: l) k.1 k.2 = aheadN l k.1 k.2 + 1 := by simp [aheadN, h]
      simp only [putR, h, if_true]
      rw [← ih]
      simp only [putL, e, List.getElem?_cons_succ, List.take_succ_cons, List.drop_succ_cons]
      split <;> simp
    · have e : aheadN (a :: l) k.1 k.2 = 0 := by simp [aheadN, h]
      simp only [putR, h, putL, e, List.getElem?_cons_zero, Option.some.injEq]
      by_cases hk : a = k
      · subst hk; simp
      · have : ¬ a = (k.1, k.2) := hk
        simp [hk]
theorem putR_mem (ks : List K2) (k x : K2) : x ∈ putR ks k ↔ x = k ∨ x ∈ ks := by
  induction ks with
  | nil => simp [putR]
  | cons a l ih =>
    by_cases h : aheadB a.1 a.2 k.1 k.2 = true
    · simp only [putR, h, if_true, List.mem_cons, ih]
      constructor <;> (rintro (h | h | h) <;> simp [h])
    · by_cases hk : a = k
      · subst hk; simp only [putR, h]; simp
      · simp only [putR, h, hk]; simp
theorem putR_rise (ks : List K2) (k : K2) (h : Rise ks) : Rise (putR ks k) := by
  induction ks with
  | nil => simp [putR, Rise]
  | cons a l ih =>
    have h' := List.pairwise_cons.1 h
    by_cases ha : aheadB a.1 a.2 k.1 k.2 = true
    · simp only [putR, ha, if_true]
      refine List.pairwise_cons.2 ⟨fun x hx => ?_, ih h'.2⟩
      rcases (putR_mem l k x).1 hx with e | e
      · subst e; exact (ah_iff _ _).1 ha
      · exact h'.1 x e
    · by_cases hk : a = k
      · subst hk; simpa only [putR, ha, if_true, if_false, Bool.false_eq_true] using h
      · simp only [putR, ha, hk, if_false]
        have hka : Ah k a := by
          rcases Ah.tri k a with t | t | t
          · exact t
          · exact absurd t.symm hk
          · exact absurd ((ah_iff _ _).2 t) ha
        refine List.pairwise_cons.2 ⟨fun x hx => ?_, h⟩
        rcases List.mem_cons.1 hx with e | e
        · subst e; exact hka
        · exact hka.trans (h'.1 x e)
theorem putR_length (ks : List K2) (k : K2) (h : Rise ks) (hn : k ∉ ks) : (putR ks k).length = ks.length + 1 := by
  induction ks with
  | nil => rfl
  | cons a l ih =>
    have h' := List.pairwise_cons.1 h
    simp only [List.mem_cons, not_or] at hn
    by_cases ha : aheadB a.1 a.2 k.1 k.2 = true
    · simp only [putR, ha, if_true, List.length_cons, ih h'.2 hn.2]
    · have : ¬ a = k := fun e => hn.1 e.symm
      simp only [putR, ha, this, if_false, List.length_cons, Bool.false_eq_true]

abbrev wUnder (x : W4) : K2 := (x.1, x.2.1)
abbrev wKey (x : W4) : K2 := (x.2.2.1, x.2.2.2)
/-- What can be learned. -/
def Lrn (ks : List K2) (ws : List W4) (k : K2) : Prop := ∀ S : K2 → Prop, (∀ k ∈ ks, S k) → (∀ x ∈ ws, S (wUnder x) → S (wKey x)) → S k
theorem Lrn.known {ks : List K2} {ws : List W4} (k : K2) (h : k ∈ ks) : Lrn ks ws k := fun _ h1 _ => h1 k h
theorem Lrn.wrap {ks : List K2} {ws : List W4} (x : W4) (h : x ∈ ws) (l : Lrn ks ws (wUnder x)) : Lrn ks ws (wKey x) := fun S h1 h2 => h2 x h (l S h1 h2)
/-- How many wraps are still to open. -/
def left (ws : List W4) (out : List K2) : Nat := (ws.filter fun x => decide (wKey x ∉ out)).length
theorem left_put (ws : List W4) (out : List K2) (x : W4) (hx : x ∈ ws) (hn : wKey x ∉ out) : left ws (putR out (wKey x)) + 1 ≤ left ws out := by
  unfold left
  induction ws with
  | nil => cases hx
  | cons a l ih =>
    have hle : (l.filter fun x' => decide (wKey x' ∉ putR out (wKey x))).length ≤ (l.filter fun x' => decide (wKey x' ∉ out)).length := by
      clear ih hx
      induction l with
      | nil => simp
      | cons b l ih =>
        by_cases h1 : wKey b ∉ putR out (wKey x)
        · have h2 : wKey b ∉ out := fun h => h1 ((putR_mem _ _ _).2 (.inr h))
          rw [List.filter_cons_of_pos (by simpa using h1), List.filter_cons_of_pos (by simpa using h2)]
          simpa using ih
        · rw [List.filter_cons_of_neg (by simpa using h1)]
          by_cases h2 : wKey b ∉ out
          · rw [List.filter_cons_of_pos (by simpa using h2)]
            simp only [List.length_cons]
            omega
          · rw [List.filter_cons_of_neg (by simpa using h2)]
            exact ih
    by_cases e : wKey a = wKey x
    · rw [List.filter_cons_of_neg (by rw [e]; simp [(putR_mem out (wKey x) (wKey x)).2 (.inl rfl)]), List.filter_cons_of_pos (by rw [e]; simpa using hn)]
      simp only [List.length_cons]
      omega
    · have hx' : x ∈ l := by
        rcases List.mem_cons.1 hx with h | h
        · subst h; exact absurd rfl e
        · exact h
      have := ih hx'
      by_cases h1 : wKey a ∉ out
      · have h2 : wKey a ∉ putR out (wKey x) := fun h => by rcases (putR_mem _ _ _).1 h with h | h; exact e h; exact h1 h
        rw [List.filter_cons_of_pos (by simpa using h2), List.filter_cons_of_pos (by simpa using h1)]
        simp only [List.length_cons]
        omega
      · have h2 : ¬ wKey a ∉ putR out (wKey x) := fun h => h1 fun m => h ((putR_mem _ _ _).2 (.inr m))
        rw [List.filter_cons_of_neg (by simpa using h2), List.filter_cons_of_neg (by simpa using h1)]
        exact this
theorem left_le (ws : List W4) (out : List K2) : left ws out ≤ ws.length := List.length_filter_le _ _

/-- What stands of l2Learned's answer on its way. -/
structure Sofar (ks : List K2) (ws : List W4) (out : List K2) : Prop where
  rise : Rise out
  has : ∀ k ∈ ks, k ∈ out
  lrn : ∀ k ∈ out, Lrn ks ws k
  few : out.length + left ws out ≤ ks.length + ws.length
theorem Sofar.start (ks : List K2) (ws : List W4) (h : Rise ks) : Sofar ks ws ks := ⟨h, fun _ h => h, fun k h => Lrn.known k h, by have := left_le ws ks; omega⟩
theorem Sofar.put {ks : List K2} {ws : List W4} {out : List K2} (h : Sofar ks ws out) (x : W4) (hx : x ∈ ws) (hu : wUnder x ∈ out) (hk : wKey x ∉ out) : Sofar ks ws (putR out (wKey x)) ∧ (putR out (wKey x)).length = out.length + 1 := by
  have hl := putR_length out (wKey x) h.rise hk
  refine ⟨⟨putR_rise _ _ h.rise, fun k hk => (putR_mem _ _ _).2 (.inr (h.has k hk)), fun k hm => ?_, ?_⟩, hl⟩
  · rcases (putR_mem _ _ _).1 hm with e | e
    · rw [e]; exact Lrn.wrap x hx (h.lrn _ hu)
    · exact h.lrn k e
  · have := left_put ws out x hx hk
    have := h.few
    omega
theorem Sofar.done {ks : List K2} {ws : List W4} {out : List K2} (h : Sofar ks ws out) (hc : ∀ x ∈ ws, wUnder x ∈ out → wKey x ∈ out) (k : K2) : k ∈ out ↔ Lrn ks ws k := by
  refine ⟨h.lrn k, fun l => ?_⟩
  exact l (fun k => k ∈ out) h.has hc
end Go.Proofs.YtmlmlmcmhpahpaaDoor
