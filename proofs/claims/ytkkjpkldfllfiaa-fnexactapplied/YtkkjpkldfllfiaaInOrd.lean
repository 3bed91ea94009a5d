
/- The contract of (keySet).inOrder: the set's keys, rising. -/
import Derived.Test.YtkkjpkldfllfiaaSrt
import Derived.Maps.RangeWalk
namespace Go.Proofs.Ytkkjpkldfllfiaa
open Go.RowKit
open Go.WideElems (Fit rd rg pl rd_val rd_key rg_of)

/-- What has been met of the range, what is to come. -/
structure Met (st : List K2) (left : Lit → Bool) (ls : List K2) : Prop where
  nodup : ls.Nodup
  ins : ∀ k ∈ ls, k ∈ st
  gone : ∀ k ∈ ls, left (kLit k) = false
  rest : ∀ k ∈ st, k ∈ ls ∨ left (kLit k) = true
  only : ∀ kl, left kl = true → ∃ k ∈ st, kl = kLit k ∧ Wf k
theorem kLit_inj {a b : K2} (ha : Wf a) (hb : Wf b) (h : kLit a = kLit b) : a = b :=
  kv_inj (keyedK.inj (keyOf_kv ha) (by rw [h]; exact keyOf_kv hb))
theorem same_self (a : K2) : (kLit a).sameKey (kLit a) = true := by simp [Lit.sameKey]
theorem Met.step {st : List K2} {left : Lit → Bool} {ls : List K2} (h : Met st left ls) (hw : ∀ k ∈ st, Wf k) {x : K2} {kl : Lit} (hkl : kl = kLit x) (hx : Wf x) (hl : left kl = true) : Met st (fun z => left z && !z.sameKey kl) (ls ++ [x]) := by
  subst hkl
  obtain ⟨k, hk, e, hwk⟩ := h.only _ hl
  have e := kLit_inj hx hwk e
  subst e
  have hn : x ∉ ls := fun hm => by rw [h.gone x hm] at hl; cases hl
  refine ⟨?_, fun k hm => ?_, fun k hm => ?_, fun k hm => ?_, fun z hz => ?_⟩
  · refine List.nodup_append.2 ⟨h.nodup, by simp, fun a ha b hb e2 => ?_⟩
    simp at hb; rw [e2, hb] at ha; exact hn ha
  · rcases List.mem_append.1 hm with hm | hm
    · exact h.ins k hm
    · simp at hm; subst hm; exact hk
  · rcases List.mem_append.1 hm with hm | hm
    · simp [h.gone k hm]
    · simp at hm; subst hm; simp [same_self]
  · by_cases e : k = x
    · left; simp [e]
    · rcases h.rest k hm with h1 | h1
      · left; simp [h1]
      · right
        have : (kLit k).sameKey (kLit x) = false := Maps.sameKey_ne (fun e2 => e (kLit_inj (hw k hm) hx e2))
        simp only [h1, this, Bool.not_false, Bool.and_self]
  · simp only [Bool.and_eq_true] at hz
    exact h.only z hz.1
theorem Met.all {st : List K2} {left : Lit → Bool} {ls : List K2} (h : Met st left ls) (hl : ∀ kl, left kl = false) (k : K2) : k ∈ ls ↔ k ∈ st :=
  ⟨h.ins k, fun hm => by rcases h.rest k hm with h1 | h1; exact h1; rw [hl] at h1; cases h1⟩
theorem MapF.owns {b n : Nat} {st : List K2} {w : World} (h : MapF b n (setF st) w) : ∃ D, w.ownsMap Try.prog 33 R0 b n D ∧ Met st (Maps.has D) [] ∧ Maps.size D ≤ n := by
  obtain ⟨es, clock, hb, F, hs, h1, h2⟩ := h
  have rgk : ∀ e ∈ es.toList, ∀ k : K2, e.key = kv k.1 k.2 → (rg Try.prog 33 R0 e).1 = kLit k ∧ Wf k := fun e he k hk => by
    obtain ⟨y, hy⟩ := F.reads e he
    rw [rg_of hy]
    have := rd_key hy
    obtain ⟨k', e1, e2, e3⟩ := keyOf_inv this
    have : k = k' := kv_inj (hk.symm.trans e1)
    subst this
    exact ⟨e3, e2⟩
  refine ⟨_, ⟨es, clock, hb, F, hs, rfl⟩, ⟨List.nodup_nil, by simp, by simp, fun k hm => .inr ?_, fun kl hkl => ?_⟩, ?_⟩
  · obtain ⟨e, he, hek, _⟩ := h2 k unitV (by simp [setF, hm])
    rw [Maps.has_eq, List.any_eq_true]
    refine ⟨rg Try.prog 33 R0 e, mem_sorted.2 (List.mem_map.2 ⟨e, he, rfl⟩), ?_⟩
    rw [(rgk e he k hek).1]
    exact same_self k
  · rw [Maps.has_eq, List.any_eq_true] at hkl
    obtain ⟨p, hp, hsame⟩ := hkl
    obtain ⟨e, he, rfl⟩ := List.mem_map.1 (mem_sorted.1 hp)
    obtain ⟨k, hek, hf⟩ := h1 e he
    obtain ⟨e1, e2⟩ := rgk e he k hek
    have hm : k ∈ st := by
      by_cases hm : k ∈ st
      · exact hm
      · simp [setF, hm] at hf
    refine ⟨k, hm, ?_, e2⟩
    rw [e1] at hsame
    exact (WideAt.sameKey_eq hsame).symm
  · rw [Maps.size_eq, length_sorted]
    simpa using hs
theorem unit_inv (v : Value) (y : DataW Unit × List MemPlace) (_ : R0 v = some y) : ∃ c : Value, v = id c := ⟨v, rfl⟩

set_option maxRecDepth 100000 in
set_option maxHeartbeats 2000000 in
theorem inOrder_any (b n : Nat) (st : List K2) (w : World) (hM : MapF b n (setF st) w) (hn : n ≤ 100000) (hw : ∀ k ∈ st, Wf k) :
    Calls Try.prog 54 #[.map (some b)] w fun e w' => ∃ v out, e = .returned v ∧ Keys w.heap.size v out w' ∧ Rise out ∧ (∀ k, k ∈ out ↔ k ∈ st) ∧ Below w.heap.size w w' := by
  obtain ⟨D, hown, hmet, hsize⟩ := hM.owns
  have hbl := hown.lt
  clear hM
  have HM0 : Hid (Met st (Maps.has D) []) := hmet
  clear hmet
  go_enter Try.func54, Try.ntmps54
  go_wp2_with (refine wpList_range_own _ rfl _ 90 rfl 33 123 keyedK Try.underlying90 R0 b n D rfl hown ?_; intro w0 hrg0 hg0 hs0)
  go_frame
  go_loopw [3] (fun v wr => ∃ (left : Lit → Bool) (cnt : Nat) (ls : List K2), wr.ranges Try.prog 33 R0 b w.heap.size n D left cnt ∧ ls.length + cnt ≤ Maps.size D ∧ Hid (Keys w.heap.size v ls wr ∧ Met st left ls ∧ Below w.heap.size w wr))
    (fun _ wr => wr.rangeLeft b w.heap.size)
  case atStart => exact ⟨_, _, [], hrg0, by simp, World.ownsRow_nil _ _ _ _, HM0.out, (Below.refl _ _).grown hg0 (Nat.le_refl _) (fun j hj => by cases hj)⟩
  case round =>
    obtain ⟨left, cnt, ls, hrg, hcs, HI⟩ := hrel
    clear HM0 hrg0 hg0 hs0
    go_wp2_with (refine wpList_next_ranges _ rfl _ rfl 33 keyedK R0 (fun k : K2 => kv k.1 k.2) id (fun key kl hk => by obtain ⟨x, hx, _⟩ := keyOf_inv hk; exact ⟨x, hx⟩) unit_inv b w.heap.size n _ _ _ rfl hrg ?_ ?_)
    · intro hc0 hl0
      go_wp2_with fail
      refine (sortKeys_any u3 ls w.heap.size wr HI.out.1 (by omega)).mono ?_
      rintro e w3 ⟨rfl, hk3, hg3⟩
      go_wp2
      go_ret
      exact ⟨_, _, rfl, hk3, sortL_rise ls HI.out.2.1.nodup, fun k => (sortL_mem ls k).trans (HI.out.2.1.all hl0 k), HI.out.2.2.grown hg3 HI.out.2.2.size (fun j e => (HI.out.1.lt j e).1)⟩
    · intro x1 x2 c kl yd yp w2 cnt2 hkey hlk hv hat hrg2 hlt hg2 hs2 hen
      obtain ⟨x', ex, hwx, hkl⟩ := keyOf_inv hkey
      have ex := kv_inj (a := (x1, x2)) ex
      subst ex
      have HI2 : Hid (Keys w.heap.size u3 ls w2) := HI.out.1.kept hg2 (fun k e e2 => row_ne_iter HI.out.1 hrg (by rw [e2, ← e]))
      have hs3 := HI.out.2.2.size
      have hs4 := hg2.size
      have hnw := cell_two_new (w2.alloc (kb x1 x2)) x1 x2 33
      rw [show (w2.alloc (kb x1 x2)).heap.size = w2.heap.size + 1 by simp] at hnw
      have HB2 : Hid (Below w.heap.size w w2) := HI.out.2.2.grown hg2 hs3 (fun j e => by cases e; exact Nat.le_refl _)
      have HMt : Hid (Met st (fun z => left z && !z.sameKey kl) (ls ++ [(x1, x2)])) := HI.out.2.1.step hw hkl hwx hlk
      have HR2 : Hid (w2.ranges Try.prog 33 R0 b w.heap.size n D (fun z => left z && !z.sameKey kl) cnt2) := hrg2
      have HR : Hid (wr.ranges Try.prog 33 R0 b w.heap.size n D left cnt) := hrg
      clear hs2 hkey hlk hv hat hkl hg2 HI hrg2 hrg
      go_wp2_with (at_builtin; refine wpList_append_key rfl _ _ rfl w.heap.size u3 ls rfl (HI2.out.below (two_below _ _ _) (fun j e => (HI2.out.lt j e).2)) _ x1 x2 rfl hnw (by omega) (by simp; omega) ?_; intro v4 w4 own4 gr4 loc4; go_frame)
      have hrg3 := ((HR2.out.alloc _).alloc _).kept gr4 (row_ne_low HI2.out hbl) (row_ne_iter HI2.out HR2.out)
      go_roundw
      case rel => exact ⟨_, cnt2, ls ++ [(x1, x2)], hrg3, by simp; omega, own4, HMt.out, ((HB2.out.alloc (by omega) _).alloc (by simp; omega) _).grown gr4 (by simp; omega) (fun j e => (HI2.out.lt j e).1)⟩
      case measure => rw [hrg3.left_eq, HR.out.left_eq]; exact hlt
end Go.Proofs.Ytkkjpkldfllfiaa
