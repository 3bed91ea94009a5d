
/- Applied: what it answers. -/
import Derived.Test.YtkkjpkldfllfiaaLBoth
import Derived.Test.YtkkjpkldfllfiaaNw3
import Derived.Test.YtkkjpkldfllfiaaMem4a
import Derived.Test.YtkkjpkldfllfiaaKit2
import Derived.Test.YtkkjpkldfllfiaaAp0
namespace Go.Proofs.Ytkkjpkldfllfiaa
open Go.RowKit

/-- What a member is behind a rekey, and the code, where 'out' is what is learned. -/
def apRes (id me : Int) (ks : List K2) (ep : Int) (ws : List W4) (out : List K2) : Int × Int × List K2 × Int :=
  if memberB id me ks = true then (if rkB ep ws = true then (if ep ≤ me then (id, me, ks, 3) else if me + 1 < ep then (id, me, ks, 4) else if rootK (newK out) = rootK ks then (id, me, ks, 5) else (id, ep, newK out, 0)) else (id, me, ks, 2)) else (0, 0, [], 1)
/-- Is anything learned at all? -/
def apN (id me : Int) (ks : List K2) (ep : Int) (ws : List W4) : Prop := memberB id me ks = true ∧ rkB ep ws = true ∧ ¬ ep ≤ me ∧ ¬ me + 1 < ep
def ApIs (id me : Int) (ks : List K2) (ep : Int) (ws : List W4) (i e : Int) (l : List K2) (r : Int) : Prop := ∃ out, (apN id me ks ep ws → LrnOut ks ws out) ∧ apRes id me ks ep ws out = (i, e, l, r)
theorem ApIs.one {id me : Int} {ks : List K2} {ep : Int} {ws : List W4} {i e r i' e' r' : Int} {l l' : List K2} (h : ApIs id me ks ep ws i e l r) (h' : ApIs id me ks ep ws i' e' l' r') : i = i' ∧ e = e' ∧ l = l' ∧ r = r' := by
  obtain ⟨o, ho, hr⟩ := h
  obtain ⟨o', ho', hr'⟩ := h'
  have : apRes id me ks ep ws o = apRes id me ks ep ws o' := by
    by_cases hN : apN id me ks ep ws
    · rw [(ho hN).one (ho' hN)]
    · unfold apRes
      split
      · split
        · split
          · rfl
          · split
            · rfl
            · exact absurd ⟨‹_›, ‹_›, ‹_›, ‹_›⟩ hN
        · rfl
      · rfl
  rw [hr, hr'] at this
  simpa using this
theorem ApIs.no {id me : Int} {ks : List K2} {ep : Int} {ws : List W4} (h : memberB id me ks = false) : ApIs id me ks ep ws 0 0 [] 1 := ⟨[], (fun n => by rw [n.1] at h; cases h), by simp [apRes, h]⟩
theorem ApIs.form {id me : Int} {ks : List K2} {ep : Int} {ws : List W4} (h : memberB id me ks = true) (hr : rkB ep ws = false) : ApIs id me ks ep ws id me ks 2 := ⟨[], (fun n => by rw [n.2.1] at hr; cases hr), by simp [apRes, h, hr]⟩
theorem ApIs.old {id me : Int} {ks : List K2} {ep : Int} {ws : List W4} (h : memberB id me ks = true) (hr : rkB ep ws = true) (ho : ep ≤ me) : ApIs id me ks ep ws id me ks 3 := ⟨[], (fun n => absurd ho n.2.2.1), by simp [apRes, h, hr, ho]⟩
theorem ApIs.gap {id me : Int} {ks : List K2} {ep : Int} {ws : List W4} (h : memberB id me ks = true) (hr : rkB ep ws = true) (ho : ¬ ep ≤ me) (hg : me + 1 < ep) : ApIs id me ks ep ws id me ks 4 := ⟨[], (fun n => absurd hg n.2.2.2), by simp [apRes, h, hr, ho, hg]⟩
theorem ApIs.lost {id me : Int} {ks : List K2} {ep : Int} {ws : List W4} {out : List K2} (h : memberB id me ks = true) (hr : rkB ep ws = true) (ho : ¬ ep ≤ me) (hg : ¬ me + 1 < ep) (hl : LrnOut ks ws out) (he : rootK (newK out) = rootK ks) : ApIs id me ks ep ws id me ks 5 := ⟨out, fun _ => hl, by simp [apRes, h, hr, ho, hg, he]⟩
theorem ApIs.done {id me : Int} {ks : List K2} {ep : Int} {ws : List W4} {out : List K2} (h : memberB id me ks = true) (hr : rkB ep ws = true) (ho : ¬ ep ≤ me) (hg : ¬ me + 1 < ep) (hl : LrnOut ks ws out) (he : rootK (newK out) ≠ rootK ks) : ApIs id me ks ep ws id ep (newK out) 0 := ⟨out, fun _ => hl, by simp [apRes, h, hr, ho, hg, he]⟩

/-- No more can be learned than stands there. -/
theorem few_of {α : Type} [BEq α] [LawfulBEq α] : ∀ {a b : List α}, a.Nodup → (∀ x, x ∈ a → x ∈ b) → a.length ≤ b.length
  | [], _, _, _ => Nat.zero_le _
  | x :: a, b, hn, hs => by
    have hn' := List.nodup_cons.1 hn
    have hx : x ∈ b := hs x (.head _)
    have := few_of (a := a) (b := b.erase x) hn'.2 fun y hy => (List.mem_erase_of_ne (fun e => hn'.1 (by rw [← e]; exact hy))).2 (hs y (.tail _ hy))
    rw [List.length_erase_of_mem hx] at this
    have : 0 < b.length := List.length_pos_of_mem hx
    simp only [List.length_cons]
    omega
theorem Rise.nodup {ks : List K2} (h : Rise ks) : ks.Nodup := by
  refine List.Pairwise.imp ?_ h
  intro a b hab e
  subst e
  exact Ah.irr _ hab
theorem LrnOut.few {ks : List K2} {ws : List W4} {out : List K2} (h : LrnOut ks ws out) : out.length ≤ 600 := by
  unfold LrnOut at h
  split at h
  · rename_i hb
    have h1 := (known_right hb.1).1
    have h2 := (wraps_right hb.2).1
    have := few_of (b := ks ++ ws.map wKey) h.1.nodup fun k hk => by
      have hL := (h.2 k).1 hk
      rw [List.mem_append, List.mem_map]
      exact hL (fun k => k ∈ ks ∨ ∃ a, a ∈ ws ∧ wKey a = k) (fun _ h => .inl h) (fun x hx _ => .inr ⟨x, hx, rfl⟩)
    rw [List.length_append, List.length_map] at this
    omega
  · subst h
    simp
theorem memberB_known {id me : Int} {ks : List K2} (h : memberB id me ks = true) : knownB ks = true := by
  unfold memberB headB at h
  simp only [Bool.and_eq_true] at h
  exact h.1.2.2
end Go.Proofs.Ytkkjpkldfllfiaa
