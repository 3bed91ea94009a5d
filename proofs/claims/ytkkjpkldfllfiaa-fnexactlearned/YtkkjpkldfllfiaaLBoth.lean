
/- Learned, of the program and of the model: the same keys. -/
import Derived.Test.YtkkjpkldfllfiaaInOrd
import Derived.Test.YtkkjpkldfllfiaaWraps2
namespace Go.Proofs.Ytkkjpkldfllfiaa
open Go.RowKit

theorem known_right {ks : List K2} (h : knownB ks = true) : ks.length ≤ 200 ∧ (∀ k ∈ ks, Wf k) ∧ Rise ks := by
  unfold knownB at h
  simp only [Bool.and_eq_true, decide_eq_true_eq] at h
  have hall : ∀ i (hi : i < ks.length), okK ks[i].1 ks[i].2 = true ∧ (i = 0 ∨ ∃ h : i - 1 < ks.length, Ah ks[i - 1] ks[i]) := fun i hi => by
    have := List.all_eq_true.1 h.2 i (List.mem_range.2 hi)
    unfold okAt at this
    rw [kAt_get ks i hi, kAt_get ks (i - 1) (by omega)] at this
    simp only [Bool.and_eq_true, Bool.or_eq_true, decide_eq_true_eq] at this
    refine ⟨this.1, ?_⟩
    rcases this.2 with e | e
    · exact .inl e
    · exact .inr ⟨by omega, (ah_iff _ _).1 e⟩
  refine ⟨h.1, fun k hk => ?_, ?_⟩
  · obtain ⟨i, hi, rfl⟩ := List.getElem_of_mem hk
    exact wf_ok (hall i hi).1
  · unfold Rise
    rw [List.pairwise_iff_getElem]
    have key : ∀ j (hj : j < ks.length) i (hi : i < ks.length), i < j → Ah ks[i] ks[j] := fun j => by
      induction j with
      | zero => intro _ i _ h; omega
      | succ j ih =>
        intro hj i hi hij
        have hs : Ah (ks[j]'(by omega)) ks[j + 1] := by
          rcases (hall (j + 1) hj).2 with e | ⟨_, e⟩
          · omega
          · simpa using e
        by_cases e : i = j
        · subst e; exact hs
        · exact (ih (by omega) i hi (by omega)).trans hs
    exact fun i j hi hj hij => key j hj i hi hij
theorem wraps_right {ws : List W4} (h : wrapsB ws = true) : ws.length ≤ 400 ∧ (∀ x ∈ ws, Wf (wUnder x)) ∧ ∀ x ∈ ws, Wf (wKey x) := by
  unfold wrapsB at h
  simp only [Bool.and_eq_true, decide_eq_true_eq, List.all_eq_true] at h
  refine ⟨h.1, fun x hx => ?_, fun x hx => ?_⟩
  · have := h.2 x hx
    unfold okW at this
    simp only [Bool.and_eq_true] at this
    exact wf_ok this.1
  · have := h.2 x hx
    unfold okW at this
    simp only [Bool.and_eq_true] at this
    exact wf_ok this.2
theorem lrn_wf {ks : List K2} {ws : List W4} (h1 : ∀ k ∈ ks, Wf k) (h2 : ∀ x ∈ ws, Wf (wKey x)) {k : K2} (h : Lrn ks ws k) : Wf k := by
  exact h _ h1 (fun x hx _ => h2 x hx)
/-- What Learned answers. -/
def LrnOut (ks : List K2) (ws : List W4) (out : List K2) : Prop := if knownB ks = true ∧ wrapsB ws = true then Rise out ∧ ∀ k, k ∈ out ↔ Lrn ks ws k else out = []
theorem LrnOut.one {ks : List K2} {ws : List W4} {a b : List K2} (ha : LrnOut ks ws a) (hb : LrnOut ks ws b) : a = b := by
  unfold LrnOut at ha hb
  split at ha
  · rename_i h
    rw [if_pos h] at hb
    exact Rise.eq ha.1 hb.1 (fun x => (ha.2 x).trans (hb.2 x).symm)
  · rename_i h
    rw [if_neg h] at hb
    rw [ha, hb]

set_option maxHeartbeats 1000000 in
theorem specLearned_any {B C : Nat} {kx wx : Value} {ks : List K2} {ws : List W4} {w : World} (hk : Keys B kx ks w) (hw : Wraps C wx ws w) :
    Calls Try.prog 13 #[kx, wx] w fun e w' => ∃ v out, e = .returned v ∧ out.length ≤ 600 ∧ Keys w.heap.size v out w' ∧ LrnOut ks ws out ∧ Below w.heap.size w w' := by
  have HK : Hid (Keys B kx ks w) := hk
  have HW : Hid (Wraps C wx ws w) := hw
  clear hk hw
  cases hkb : knownB ks with
  | false =>
    go_enter Try.func13, Try.ntmps13
    go_wp2_with fail
    refine (specKnownOk_any HK.out).mono ?_
    rintro e w1 ⟨rfl, hb⟩
    rw [hkb]
    have hs := hb.size
    go_wp2
    go_ret
    exact ⟨_, [], rfl, Nat.zero_le _, emptyK w1 w.heap.size hs, by unfold LrnOut; rw [if_neg (by simp [hkb])], hb.alloc hs _⟩
  | true =>
    go_enter Try.func13, Try.ntmps13
    go_wp2_with fail
    refine (specKnownOk_any HK.out).mono ?_
    rintro e w1 ⟨rfl, hb⟩
    rw [hkb]
    have HW1 : Hid (Wraps C wx ws w1) := HW.out.below hb (fun k e => (HW.out.lt k e).2)
    have HK1 : Hid (Keys B kx ks w1) := HK.out.below hb (fun k e => (HK.out.lt k e).2)
    have HB1 : Hid (Below w.heap.size w w1) := hb
    have hs := hb.size
    clear hb
    go_wp2_with fail
    refine (specWrapsOk_any HW1.out).mono ?_
    rintro e w2 ⟨rfl, hb⟩
    have hs2 := hb.size
    cases hwb : wrapsB ws with
    | false =>
      go_wp2
      go_ret
      exact ⟨_, [], rfl, Nat.zero_le _, emptyK w2 w.heap.size (by omega), by unfold LrnOut; rw [if_neg (by simp [hwb])], (HB1.out.trans (hb.mono hs)).alloc (by omega) _⟩
    | true =>
      obtain ⟨k1, _, k3⟩ := known_right hkb
      obtain ⟨w1', _, _⟩ := wraps_right hwb
      have HA : Hid (KArg kx ks w2) := HK1.out.arg.below hb
      have HA2 : Hid (WArg wx ws w2) := HW1.out.arg.below hb
      have HB2 : Hid (Below w.heap.size w w2) := HB1.out.trans (hb.mono hs)
      clear hb
      go_wp2_with fail
      refine (l2Learned_any kx wx ks ws w2 HA.out HA2.out k1 w1' k3).mono ?_
      rintro e w3 ⟨v, out, rfl, _, o1, o2, o3, o5, o4⟩
      go_wp2
      go_ret
      exact ⟨_, out, rfl, o5, o1.mono (by omega), by unfold LrnOut; rw [if_pos ⟨hkb, hwb⟩]; exact ⟨o2, o3⟩, HB2.out.trans (o4.mono (by omega))⟩

set_option maxHeartbeats 1000000 in
theorem learned_any {B C : Nat} {kx wx : Value} {ks : List K2} {ws : List W4} {w : World} (hk : Keys B kx ks w) (hw : Wraps C wx ws w) :
    Calls Try.prog 11 #[kx, wx] w fun e w' => ∃ v out, e = .returned v ∧ Keys w.heap.size v out w' ∧ LrnOut ks ws out ∧ Below w.heap.size w w' := by
  have HK : Hid (Keys B kx ks w) := hk
  have HW : Hid (Wraps C wx ws w) := hw
  clear hk hw
  cases hkb : knownB ks with
  | false =>
    go_enter Try.func11, Try.ntmps11
    go_wp2_with fail
    refine (knownOk_any HK.out).mono ?_
    rintro e w1 ⟨rfl, hb⟩
    rw [hkb]
    have hs := hb.size
    go_wp2
    go_ret
    exact ⟨_, [], rfl, World.ownsRow_nil _ _ _ _, by unfold LrnOut; rw [if_neg (by simp [hkb])], hb⟩
  | true =>
    go_enter Try.func11, Try.ntmps11
    go_wp2_with fail
    refine (knownOk_any HK.out).mono ?_
    rintro e w1 ⟨rfl, hb⟩
    rw [hkb]
    have HW1 : Hid (Wraps C wx ws w1) := HW.out.below hb (fun k e => (HW.out.lt k e).2)
    have HK1 : Hid (Keys B kx ks w1) := HK.out.below hb (fun k e => (HK.out.lt k e).2)
    have HB1 : Hid (Below w.heap.size w w1) := hb
    have hs := hb.size
    clear hb
    go_wp2_with fail
    refine (wrapsOk_any HW1.out).mono ?_
    rintro e w2 ⟨rfl, hb⟩
    have hs2 := hb.size
    cases hwb : wrapsB ws with
    | false =>
      go_wp2
      go_ret
      exact ⟨_, [], rfl, World.ownsRow_nil _ _ _ _, by unfold LrnOut; rw [if_neg (by simp [hwb])], HB1.out.trans (hb.mono hs)⟩
    | true =>
      obtain ⟨k1, k2, _⟩ := known_right hkb
      obtain ⟨w1', w2', w3'⟩ := wraps_right hwb
      have HA : Hid (KArg kx ks w2) := HK1.out.arg.below hb
      have HA2 : Hid (WArg wx ws w2) := HW1.out.arg.below hb
      have HB2 : Hid (Below w.heap.size w w2) := HB1.out.trans (hb.mono hs)
      clear hb
      go_wp2_with fail
      refine (learnedSet_any kx wx ks ws w2 HA.out HA2.out k1 w1' k2 w2' w3').mono ?_
      rintro e w3 ⟨b, st, rfl, hbb, hM, hnd, hsl, hst, hb3⟩
      have hs3 := hb3.size
      go_wp2_with fail
      refine (inOrder_any b st.length st w3 hM ?_ ?_).mono ?_
      · omega
      · exact fun k hk => lrn_wf k2 w3' ((hst k).1 hk)
      rintro e w4 ⟨v, out, rfl, o1, o2, o3, o4⟩
      go_wp2
      go_ret
      exact ⟨_, out, rfl, o1.mono (by omega), by unfold LrnOut; rw [if_pos ⟨hkb, hwb⟩]; exact ⟨o2, fun k => (o3 k).trans (hst k)⟩, (HB2.out.trans (hb3.mono (by omega))).trans (o4.mono (by omega))⟩
end Go.Proofs.Ytkkjpkldfllfiaa
