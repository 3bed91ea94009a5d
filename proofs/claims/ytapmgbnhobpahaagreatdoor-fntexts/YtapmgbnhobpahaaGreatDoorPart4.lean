/- Rekeys off their texts: what the program reads, what the model reads, and that both are the same. -/
import Derived.Test.YtapmgbnhobpahaaGreatDoorPart3
import Derived.Test.YtapmgbnhobpahaaGreatDoorPart1
import Derived.Test.YtapmgbnhobpahaaGreatDoorPart0
import Derived.Maps.Range
import Derived.Maps.RangeWalk
import Derived.Maps.AppendAt
import Derived.Deep.AppendLies
import Derived.OpenShut
import Derived.Test.YtapmgbnhobpahaaGreatDoorRows
import Derived.WalkKit
import Derived.WalkSpells
import Derived.WalkLawsBesides
import Derived.Deep.QuietTactic
import Derived.BigQuiet
namespace Go.Proofs.YtapmgbnhobpahaaGreatDoor
open Go.RowKit Go.Shelf
namespace Tx

theorem stops_cons {x : UInt8} {r : List UInt8} (h : isD x = false) : Stops (x :: r) := fun y r' e => by
  injection e with e1 e2
  rw [← e1]; exact h
theorem pNeed_pre (q r : List UInt8) : pNeed q (q ++ r) = some r := by
  unfold pNeed
  rw [if_pos (hasPre q r)]
  simp
theorem pNeed_is {q l r : List UInt8} (h : pNeed q l = some r) : l = q ++ r := by
  unfold pNeed at h
  by_cases hk : Lib.hasPrefix l q = true
  · rw [if_pos hk] at h
    injection h with h
    rw [← h]
    exact hasPre_is hk
  · rw [if_neg hk] at h; cases h
theorem stops_one {x : UInt8} {r : List UInt8} (h : isD x = false) : Stops ([x] ++ r) := stops_cons h
theorem pKey_text {a b : Nat} (ha : a < 10000000000) (hb : b < 10000000000) {r : List UInt8} (hr : Stops r) : pKey (keyT a b ++ r) = some (((a : Int), (b : Int)), r) := by
  have e : keyT a b ++ r = Lib.decDigits a ++ ([46] ++ (Lib.decDigits b ++ r)) := by simp [keyT]
  rw [e, pKey, pNum_dec a ha (stops_one (by decide))]
  simp only [Option.bind_some]
  rw [pNeed_pre]
  simp [pNum_dec b hb hr]
theorem pKey_is {l r : List UInt8} {k : Int × Int} (h : pKey l = some (k, r)) : ∃ a b : Nat, k = ((a : Int), (b : Int)) ∧ l = keyT a b ++ r := by
  unfold pKey at h
  cases h1 : pNum l with
  | none => simp [h1] at h
  | some x =>
    cases h2 : pNeed [46] x.2 with
    | none => simp [h1, h2] at h
    | some r2 =>
      cases h3 : pNum r2 with
      | none => simp [h1, h2, h3] at h
      | some y =>
        simp [h1, h2, h3] at h
        obtain ⟨a, ha, _, hl, _⟩ := pNum_is (m := x.1) (r := x.2) h1
        obtain ⟨b, hb, _, hl2, _⟩ := pNum_is (m := y.1) (r := y.2) h3
        refine ⟨a, b, by rw [← h.1, ha, hb], ?_⟩
        rw [hl, pNeed_is h2, hl2, h.2]
        simp [keyT]
theorem pWrap_text {x : W4} (h : okW x = true) {r : List UInt8} (hr : Stops r) : pWrap (wrapT x ++ r) = some (x, r) := by
  have := okW_nat h
  obtain ⟨a, b, c, d⟩ := x
  simp only at this
  obtain ⟨a, rfl⟩ : ∃ n : Nat, a = (n : Int) := ⟨a.toNat, by omega⟩
  obtain ⟨b, rfl⟩ : ∃ n : Nat, b = (n : Int) := ⟨b.toNat, by omega⟩
  obtain ⟨c, rfl⟩ : ∃ n : Nat, c = (n : Int) := ⟨c.toNat, by omega⟩
  obtain ⟨d, rfl⟩ : ∃ n : Nat, d = (n : Int) := ⟨d.toNat, by omega⟩
  have e : wrapT ((a : Int), (b : Int), (c : Int), (d : Int)) ++ r = keyT a b ++ ([62] ++ (keyT c d ++ r)) := by simp [wrapT]
  rw [e, pWrap, pKey_text (by omega) (by omega) (stops_one (by decide))]
  simp only [Option.bind_some]
  rw [pNeed_pre]
  simp [pKey_text (a := c) (b := d) (by omega) (by omega) hr]
theorem pWrap_is {l r : List UInt8} {x : W4} (h : pWrap l = some (x, r)) : l = wrapT x ++ r := by
  unfold pWrap at h
  cases h1 : pKey l with
  | none => simp [h1] at h
  | some k =>
    cases h2 : pNeed [62] k.2 with
    | none => simp [h1, h2] at h
    | some r2 =>
      cases h3 : pKey r2 with
      | none => simp [h1, h2, h3] at h
      | some y =>
        simp [h1, h2, h3] at h
        obtain ⟨a, b, ha, hl⟩ := pKey_is (k := k.1) (r := k.2) h1
        obtain ⟨c, d, hc, hl2⟩ := pKey_is (k := y.1) (r := y.2) h3
        rw [hl, pNeed_is h2, hl2, ← h.1, ← h.2, ha, hc]
        simp [wrapT]
theorem rekW_cons (x : W4) (ws : List W4) : rekW (x :: ws) = 32 :: (wrapT x ++ rekW ws) := by simp [rekW]
theorem stops_rekW : ∀ ws : List W4, Stops (rekW ws)
  | [] => by simpa [rekW] using stops_nil
  | x :: ws => by rw [rekW_cons]; exact stops_cons (by decide)
theorem pWs_text : ∀ ws : List W4, (∀ x ∈ ws, okW x = true) → pWs (rekW ws) = some (ws, [])
  | [], _ => rfl
  | x :: ws, h => by
    have ih := pWs_text ws (fun y hy => h y (List.mem_cons_of_mem _ hy))
    rw [rekW_cons]
    rw [pWs_yes (x := x) (l2 := rekW ws) (by simp [Lib.hasPrefix]) (by simpa using pWrap_text (h x (by simp)) (stops_rekW ws)), ih]
    rfl
theorem pWraps_is : ∀ (f : Nat) (l r : List UInt8) (ws : List W4), pWraps f l = some (ws, r) → l = rekW ws ++ r
  | 0, l, r, ws, h => by
    simp [pWraps] at h
    obtain ⟨rfl, rfl⟩ := h
    simp [rekW]
  | f + 1, l, r, ws, h => by
    by_cases hp : Lib.hasPrefix l [32] = true
    · simp only [pWraps, hp, if_true] at h
      cases hw : pWrap (l.drop 1) with
      | none => rw [hw] at h; cases h
      | some x =>
        rw [hw, Option.bind_some] at h
        cases hr : pWraps f x.2 with
        | none => rw [hr] at h; cases h
        | some y =>
          rw [hr] at h
          simp at h
          have h1 := pWraps_is f x.2 y.2 y.1 hr
          have h2 := pWrap_is (x := x.1) (r := x.2) hw
          rw [hasPre_is hp, show l.drop [(32 : UInt8)].length = l.drop 1 from rfl, h2, h1, ← h.1, ← h.2, rekW_cons]
          simp
    · simp [pWraps, hp] at h
      obtain ⟨rfl, rfl⟩ := h
      simp [rekW]
theorem pRekey_text {ep : Int} {ws : List W4} (h : rkB ep ws = true) : pRekey (rekT ep ws) = some ((ep, ws), []) := by
  obtain ⟨h1, h2, h3, h4⟩ := rkB_nat h
  obtain ⟨n, rfl⟩ : ∃ n : Nat, ep = (n : Int) := ⟨ep.toNat, by omega⟩
  have e : rekT (n : Int) ws = sEpoch ++ (Lib.decDigits n ++ rekW ws) := by simp [rekT]
  rw [e, pRekey, pNeed_pre]
  simp only [Option.bind_some]
  rw [pNum_dec n (by omega) (stops_rekW ws)]
  simp only [Option.bind_some]
  rw [pWs_text ws h4]
  simp [h]
theorem pRekey_is {l : List UInt8} {ep : Int} {ws : List W4} (h : pRekey l = some ((ep, ws), [])) : rkB ep ws = true ∧ l = rekT ep ws := by
  unfold pRekey at h
  cases h1 : pNeed sEpoch l with
  | none => simp [h1] at h
  | some r1 =>
    cases h2 : pNum r1 with
    | none => simp [h1, h2] at h
    | some x =>
      cases h3 : pWs x.2 with
      | none => simp [h1, h2, h3] at h
      | some y =>
        simp only [h1, h2, h3, Option.bind_some] at h
        by_cases hr : rkB x.1 y.1 = true
        · rw [if_pos hr] at h
          simp at h
          obtain ⟨⟨e1, e2⟩, e3⟩ := h
          subst e1 e2
          refine ⟨hr, ?_⟩
          obtain ⟨n, hn, _, hl, _⟩ := pNum_is (m := x.1) (r := x.2) h2
          rw [pNeed_is h1, hl, pWraps_is _ _ _ _ h3, e3, rekT, hn]
          simp
        · rw [if_neg hr] at h; cases h
theorem wholeRk_is {l : List UInt8} {ep : Int} {ws : List W4} (h : wholeRk l = (ep, ws, true)) : rkB ep ws = true ∧ l = rekT ep ws := by
  unfold wholeRk at h
  split at h
  · rename_i x hx
    obtain ⟨a, b⟩ := x
    simp at h
    obtain ⟨rfl, rfl⟩ := h
    exact pRekey_is hx
  · simp at h
theorem wholeRk_not {l : List UInt8} (h : (wholeRk l).2.2 = false) : wholeRk l = (0, [], false) := by
  unfold wholeRk at h ⊢
  split at h
  · simp at h
  · rfl

/-- A key of the model: its two numbers, and whether both are such. -/
def sKey (l : List UInt8) : (Int × Int) × Bool := (((pInt (cut 46 l).1).1, (pInt (cut 46 l).2.1).1), (pInt (cut 46 l).1).2 && (pInt (cut 46 l).2.1).2)
abbrev sOne (l : List UInt8) : W4 × Bool := (((sKey (cut 62 l).1).1.1, (sKey (cut 62 l).1).1.2, (sKey (cut 62 l).2.1).1.1, (sKey (cut 62 l).2.1).1.2), (sKey (cut 62 l).1).2 && (sKey (cut 62 l).2.1).2)
/-- The wraps that the model reads still. -/
def sWs : Nat → Bool → List UInt8 → Option (List W4)
  | 0, _, _ => some []
  | f + 1, more, l => if more = true then (if (sOne (cut 32 l).1).2 = true then (sWs f (cut 32 l).2.2 (cut 32 l).2.1).map ((sOne (cut 32 l).1).1 :: ·) else none) else some []
abbrev wEpoch : List UInt8 := [101, 112, 111, 99, 104]
def specRk (l : List UInt8) : Int × List W4 × Bool :=
  match sWs 401 (cut 32 (cut 32 l).2.1).2.2 (cut 32 (cut 32 l).2.1).2.1 with
  | none => (0, [], false)
  | some ws => if (cut 32 l).1 = wEpoch ∧ (cut 32 l).2.2 = true ∧ rekText (pInt (cut 32 (cut 32 l).2.1).1).1 ws = l then ((pInt (cut 32 (cut 32 l).2.1).1).1, ws, true) else (0, [], false)

theorem dec_no (c : UInt8) (hc : isD c = false) (n : Nat) : c ∉ Lib.decDigits n := fun hm => by
  have := dec_isD n n (lt_pow n) c hm
  rw [hc] at this; cases this
theorem keyT_no (c : UInt8) (hc : isD c = false) (h46 : c ≠ 46) (a b : Nat) : c ∉ keyT a b := by
  simp only [keyT, List.mem_append, List.mem_cons, not_or]
  first
  | exact ⟨dec_no c hc a, h46, dec_no c hc b⟩
  | exact ⟨⟨dec_no c hc a, h46⟩, dec_no c hc b⟩
theorem sKey_text {a b : Nat} (ha : a < 10000000000) (hb : b < 10000000000) : sKey (keyT a b) = (((a : Int), (b : Int)), true) := by
  have e : cut 46 (keyT a b) = (Lib.decDigits a, Lib.decDigits b, true) := by
    have : keyT a b = Lib.decDigits a ++ 46 :: Lib.decDigits b := by simp [keyT]
    rw [this]
    exact cut_app 46 _ _ (dec_no 46 (by decide) a)
  simp [sKey, e, pInt_dec a ha, pInt_dec b hb]
theorem wrapT_is {x : W4} (h : okW x = true) : ∃ a b c d : Nat, x = ((a : Int), (b : Int), (c : Int), (d : Int)) ∧ a < 10000000000 ∧ b < 10000000000 ∧ c < 10000000000 ∧ d < 10000000000 ∧ wrapT x = keyT a b ++ 62 :: keyT c d := by
  have := okW_nat h
  obtain ⟨a, b, c, d⟩ := x
  simp only at this
  obtain ⟨a, rfl⟩ : ∃ n : Nat, a = (n : Int) := ⟨a.toNat, by omega⟩
  obtain ⟨b, rfl⟩ : ∃ n : Nat, b = (n : Int) := ⟨b.toNat, by omega⟩
  obtain ⟨c, rfl⟩ : ∃ n : Nat, c = (n : Int) := ⟨c.toNat, by omega⟩
  obtain ⟨d, rfl⟩ : ∃ n : Nat, d = (n : Int) := ⟨d.toNat, by omega⟩
  exact ⟨a, b, c, d, rfl, by omega, by omega, by omega, by omega, by simp [wrapT]⟩
theorem sOne_text {x : W4} (h : okW x = true) : sOne (wrapT x) = (x, true) := by
  obtain ⟨a, b, c, d, rfl, ha, hb, hc, hd, e⟩ := wrapT_is h
  rw [e]
  have e2 : cut 62 (keyT a b ++ 62 :: keyT c d) = (keyT a b, keyT c d, true) := cut_app 62 _ _ (keyT_no 62 (by decide) (by decide) a b)
  simp [sOne, e2, sKey_text ha hb, sKey_text hc hd]
theorem wrapT_no {x : W4} (h : okW x = true) : (32 : UInt8) ∉ wrapT x := by
  obtain ⟨a, b, c, d, rfl, ha, hb, hc, hd, e⟩ := wrapT_is h
  rw [e]
  simp only [List.mem_append, List.mem_cons, not_or]
  exact ⟨keyT_no 32 (by decide) (by decide) a b, by decide, keyT_no 32 (by decide) (by decide) c d⟩
/-- What stands behind the first blank. -/
def restW : List W4 → List UInt8
  | [] => []
  | x :: ws => wrapT x ++ rekW ws
def someW : List W4 → Bool
  | [] => false
  | _ :: _ => true
theorem cut_none (c : UInt8) : ∀ (a : List UInt8), c ∉ a → cut c a = (a, [], false)
  | [], _ => by simp [cut]
  | x :: a, h => by
    have hx : x ≠ c := fun e => h (by simp [e])
    have := cut_none c a (fun m => h (List.mem_cons_of_mem _ m))
    simp [cut, hx, this]
theorem cut_rekW {a : List UInt8} (h : (32 : UInt8) ∉ a) : ∀ ws : List W4, cut 32 (a ++ rekW ws) = (a, restW ws, someW ws)
  | [] => by simpa [rekW, restW, someW] using cut_none 32 a h
  | x :: ws => by rw [rekW_cons]; exact cut_app 32 _ _ h
theorem sWs_text : ∀ (ws : List W4) (f : Nat), ws.length ≤ f → (∀ x ∈ ws, okW x = true) → sWs f (someW ws) (restW ws) = some ws
  | [], 0, _, _ => rfl
  | [], f + 1, _, _ => by simp [sWs, someW]
  | x :: ws, 0, h, _ => by simp at h
  | x :: ws, f + 1, h, hk => by
    have ih := sWs_text ws f (by simpa using h) (fun y hy => hk y (List.mem_cons_of_mem _ hy))
    have e := cut_rekW (wrapT_no (hk x (by simp))) ws
    have e2 := sOne_text (hk x (by simp))
    show (if true = true then (if (sOne (cut 32 (wrapT x ++ rekW ws)).1).2 = true then (sWs f (cut 32 (wrapT x ++ rekW ws)).2.2 (cut 32 (wrapT x ++ rekW ws)).2.1).map ((sOne (cut 32 (wrapT x ++ rekW ws)).1).1 :: ·) else none) else some []) = _
    rw [e]
    show (if true = true then (if (sOne (wrapT x)).2 = true then (sWs f (someW ws) (restW ws)).map ((sOne (wrapT x)).1 :: ·) else none) else some []) = _
    rw [e2, ih]
    rfl
theorem rekT_ne (ep : Int) (ws : List W4) : rekT ep ws ≠ [] := by simp [rekT]
theorem specRk_text {ep : Int} {ws : List W4} (h : rkB ep ws = true) : specRk (rekT ep ws) = (ep, ws, true) := by
  obtain ⟨h1, h2, h3, h4⟩ := rkB_nat h
  obtain ⟨n, rfl⟩ : ∃ n : Nat, ep = (n : Int) := ⟨ep.toNat, by omega⟩
  have e : cut 32 (rekT (n : Int) ws) = (wEpoch, Lib.decDigits n ++ rekW ws, true) := by
    have : rekT (n : Int) ws = wEpoch ++ 32 :: (Lib.decDigits n ++ rekW ws) := by simp [rekT]
    rw [this]
    exact cut_app 32 _ _ (by decide)
  have e2 := cut_rekW (dec_no 32 (by decide) n) ws
  have e3 : rekText (n : Int) ws = rekT (n : Int) ws := by simp [rekText, h]
  unfold specRk
  simp only [e, e2, sWs_text ws 401 (by omega) h4, pInt_dec n (by omega), e3]
  simp
theorem specRk_is {l : List UInt8} {ep : Int} {ws : List W4} (h : specRk l = (ep, ws, true)) : rkB ep ws = true ∧ l = rekT ep ws := by
  unfold specRk at h
  split at h
  · simp at h
  · rename_i us hus
    by_cases hc : (cut 32 l).1 = wEpoch ∧ (cut 32 l).2.2 = true ∧ rekText (pInt (cut 32 (cut 32 l).2.1).1).1 us = l
    · rw [if_pos hc] at h
      simp at h
      obtain ⟨h1, h2⟩ := h
      have h3 := hc.2.2
      rw [h1, h2] at h3
      by_cases hf : rkB ep ws = true
      · refine ⟨hf, ?_⟩
        rw [rekText, if_pos hf] at h3
        exact h3.symm
      · rw [rekText, if_neg hf] at h3
        have h4 := hc.2.1
        rw [← h3] at h4
        simp [cut] at h4
    · rw [if_neg hc] at h; simp at h
theorem specRk_not {l : List UInt8} (h : (specRk l).2.2 = false) : specRk l = (0, [], false) := by
  unfold specRk at h ⊢
  split at h
  · rfl
  · rename_i us hus
    by_cases hc : (cut 32 l).1 = wEpoch ∧ (cut 32 l).2.2 = true ∧ rekText (pInt (cut 32 (cut 32 l).2.1).1).1 us = l
    · rw [if_pos hc] at h; simp at h
    · rw [if_neg hc]
/-- Both read the same rekeys. -/
theorem bothRk (l : List UInt8) : wholeRk l = specRk l := by
  obtain ⟨k, m, b, hw⟩ : ∃ k m b, wholeRk l = (k, m, b) := ⟨_, _, _, rfl⟩
  obtain ⟨k', m', b', hs⟩ : ∃ k m b, specRk l = (k, m, b) := ⟨_, _, _, rfl⟩
  cases b with
  | true =>
    obtain ⟨hf, rfl⟩ := wholeRk_is hw
    rw [hw, specRk_text hf]
  | false =>
    cases b' with
    | true =>
      obtain ⟨hf, rfl⟩ := specRk_is hs
      have : wholeRk (rekT k' m') = (k', m', true) := wholeRk_some (pRekey_text hf)
      rw [this] at hw
      simp at hw
    | false => rw [wholeRk_not (by rw [hw]), specRk_not (by rw [hs])]
/-- What is read is no longer than 400. -/
theorem wholeRk_len (l : List UInt8) : (wholeRk l).2.1.length ≤ 400 := by
  obtain ⟨k, m, b, hw⟩ : ∃ k m b, wholeRk l = (k, m, b) := ⟨_, _, _, rfl⟩
  cases b with
  | true =>
    have := (rkB_nat (wholeRk_is hw).1).2.2.1
    rw [hw]; exact this
  | false => rw [wholeRk_not (by rw [hw])]; simp
end Tx
end Go.Proofs.YtapmgbnhobpahaaGreatDoor
/- Marks in wraps: markWrapS, heldWrapS, markRekey, heldRekey, with the marks themselves. -/
namespace Go.Proofs.YtapmgbnhobpahaaGreatDoor
open Go.RowKit

abbrev wmark (k : Int) (i : Nat) : W4 := (k + 4 * (i : Int), k + 4 * (i : Int) + 1, k + 4 * (i : Int) + 1 + 1, k + 4 * (i : Int) + 1 + 1 + 1)
def wmarks (k : Int) (n : Nat) : List W4 := (List.range n).map fun (i : Nat) => wmark k i
theorem wmarks_length (k : Int) (n : Nat) : (wmarks k n).length = n := by simp [wmarks]
theorem wmarks_get (k : Int) (n i : Nat) (h : i < (wmarks k n).length) : (wmarks k n)[i] = wmark k i := by simp [wmarks]
def partWM (k : Int) (xs : List W4) (j : Nat) : List W4 := wmarks k j ++ xs.drop j
theorem partWM_length (k : Int) (xs : List W4) (j : Nat) (h : j ≤ xs.length) : (partWM k xs j).length = xs.length := by simp [partWM, wmarks_length]; omega
theorem partWM_set (k : Int) (xs : List W4) (j : Nat) (h : j < xs.length) : (partWM k xs j).set j (wmark k j) = partWM k xs (j + 1) := by
  unfold partWM
  rw [List.drop_eq_getElem_cons h]
  have : wmarks k (j + 1) = wmarks k j ++ [wmark k j] := by simp [wmarks, List.range_succ]
  rw [this, List.append_assoc, List.set_append_right _ _ (by simp [wmarks_length])]
  simp [wmarks_length]
  rw [List.drop_eq_getElem_cons h, List.set_cons_zero]

end Go.Proofs.YtapmgbnhobpahaaGreatDoor
/- ReadRekey of the model. -/
namespace Go.Proofs.YtapmgbnhobpahaaGreatDoor
open Go.RowKit Go.Shelf
namespace Tx

set_option maxRecDepth 100000 in
theorem l8Read_any (l : List UInt8) (w : World) (hl : l.length ≤ 1048576) :
    Calls Tryz.prog 39 #[st l] w fun e w' => e = .returned (.tuple #[kv (sKey l).1.1 (sKey l).1.2, .bool (sKey l).2]) ∧ Below w.heap.size w w' := by
  have HC := cut_len 46 l
  have HSK : Hid (sKey l = (((pInt (cut 46 l).1).1, (pInt (cut 46 l).2.1).1), (pInt (cut 46 l).1).2 && (pInt (cut 46 l).2.1).2)) := rfl
  generalize sKey l = sk at HSK ⊢
  have B1 := hidT (oneB w (kb 0 0))
  have P1 := hidT (heap_new w (kb 0 0))
  go_enter Tryz.func39, Tryz.ntmps39
  go_wp2_with fail
  refine (l1Cut_any 46 l _ hl).mono ?_
  rintro e w1 ⟨rfl, q, rfl⟩
  have B1 := hidT (below_drewN B1.out q)
  have P1 : Hid (((w.alloc (kb 0 0)).drewN q).heap[w.heap.size]? = some (kb 0 0)) := P1.out
  generalize (w.alloc (kb 0 0)).drewN q = w1 at B1 P1 ⊢
  generalize cut 46 l = cc at HC HSK ⊢
  obtain ⟨wd, rest, fnd⟩ := cc
  have hrl : rest.length ≤ 1048576 := Nat.le_trans HC.2 hl
  have hrl1 : wd.length ≤ 1048576 := Nat.le_trans HC.1 hl
  clear HC
  go_wp2_with fail
  refine (l1Int_any wd _ hrl1).mono ?_
  rintro e w2 ⟨rfl, hw2⟩
  subst hw2
  go_wp2_with fail
  refine (l1Int_any rest _ hrl).mono ?_
  rintro e w3 ⟨rfl, hw3⟩
  subst hw3
  generalize pInt wd = p1 at HSK ⊢
  generalize pInt rest = p2 at HSK ⊢
  obtain ⟨n1, b1⟩ := p1
  obtain ⟨n2, b2⟩ := p2
  have HSK2 : Hid (sk = ((n1, n2), b1 && b2)) := HSK.out
  clear HSK
  obtain ⟨c0, c1, f0, f1⟩ := blk2 P1.out
  have HT := hidT (set2 (.int .i64 n1) (.int .i64 n2) P1.out)
  have B5 := hidT (B1.out.grown HT.out.2 B1.out.size (fun j e => by cases e; exact Nat.le_refl _))
  have P5 := hidT HT.out.1
  clear HT
  cases b1 with
  | false =>
    go_wp2
    generalize ((_ : World).setCell ⟨w.heap.size, 0, none⟩ (.int .i64 n1)).setCell ⟨w.heap.size, 1, none⟩ (.int .i64 n2) = w5 at B5 P5 ⊢
    obtain ⟨e0, e1, _, _⟩ := blk2 P5.out
    exact bodyPost_ret (v := .tuple #[kv n1 n2, .bool false]) (by simp [results, Tryz.results39, go_sem, e0, e1]) rfl ⟨by rw [HSK2.out]; rfl, B5.out⟩
  | true =>
    go_wp2
    generalize ((_ : World).setCell ⟨w.heap.size, 0, none⟩ (.int .i64 n1)).setCell ⟨w.heap.size, 1, none⟩ (.int .i64 n2) = w5 at B5 P5 ⊢
    obtain ⟨e0, e1, _, _⟩ := blk2 P5.out
    exact bodyPost_ret (v := .tuple #[kv n1 n2, .bool b2]) (by simp [results, Tryz.results39, go_sem, e0, e1]) rfl ⟨by rw [HSK2.out]; rfl, B5.out⟩
end Tx
end Go.Proofs.YtapmgbnhobpahaaGreatDoor
/- ReadRekey of the model: the walk. -/
namespace Go.Proofs.YtapmgbnhobpahaaGreatDoor
open Go.RowKit Go.Shelf
namespace Tx

/-- What the model answers behind its loop. -/
def endRk (l wd : List UInt8) (fnd : Bool) (n : Int) (o : Option (List W4)) : Int × List W4 × Bool := match o with
  | none => (0, [], false)
  | some ws => if wd = wEpoch ∧ fnd = true ∧ rekText n ws = l then (n, ws, true) else (0, [], false)
theorem specRk_end (l : List UInt8) : specRk l = endRk l (cut 32 l).1 (cut 32 l).2.2 (pInt (cut 32 (cut 32 l).2.1).1).1 (sWs 401 (cut 32 (cut 32 l).2.1).2.2 (cut 32 (cut 32 l).2.1).2.1) := rfl
theorem sWs_false (f : Nat) (l : List UInt8) : sWs f false l = some [] := by cases f <;> simp [sWs]
theorem sWs_zero (b : Bool) (l : List UInt8) : sWs 0 b l = some [] := rfl
theorem sWs_succ (f : Nat) (l : List UInt8) : sWs (f + 1) true l = if (sOne (cut 32 l).1).2 = true then (sWs f (cut 32 l).2.2 (cut 32 l).2.1).map ((sOne (cut 32 l).1).1 :: ·) else none := by simp [sWs]
/-- How long the row in a rekey's block is. -/
def rowLen (q : Nat) (w : World) : Nat := match w.cell? ⟨q, 1, none⟩ with
  | some (.slice _ n _) => n
  | _ => 0
/-- Where the model's reading of a rekey stands: mr and lr are to be read still, us are the wraps so far; q is the rekey's block. -/
structure SrIs (w : World) (q : Nat) (ep : Int) (o : Option (List W4)) (mr : Bool) (lr : List UInt8) (us : List W4) (x : Value) (W : World) : Prop where
  res : W.heap[w.heap.size]? = some (rb 0 (.slice none 0 0))
  var : W.heap[q]? = some (rb ep x)
  row : Wraps w.heap.size x us W
  below : Below w.heap.size w W
  pq : w.heap.size < q
  parsed : o = (sWs (401 - us.length) mr lr).map (us ++ ·)
  len : us.length ≤ 401
  lrLen : lr.length ≤ 1048576
theorem SrIs.since {w W W' : World} {q : Nat} {ep : Int} {o : Option (List W4)} {mr : Bool} {lr : List UInt8} {us : List W4} {x : Value} (h : SrIs w q ep o mr lr us x W) (hb : Below W.heap.size W W') : SrIs w q ep o mr lr us x W' :=
  ⟨(hb.block _ (cell_lt (blk2 h.res).1)).trans h.res, (hb.block _ (cell_lt (blk2 h.var).1)).trans h.var, wrapsSince h.row hb, h.below.trans (hb.mono h.below.size), h.pq, h.parsed, h.len, h.lrLen⟩
theorem SrIs.rowLen {w W : World} {q : Nat} {ep : Int} {o : Option (List W4)} {mr : Bool} {lr : List UInt8} {us : List W4} {x : Value} (h : SrIs w q ep o mr lr us x W) : Tx.rowLen q W = us.length := by
  obtain ⟨a, c, rfl⟩ := wrapsRow h.row
  simp [Tx.rowLen, (blk2 h.var).2.1]
theorem row_form {W : World} {B n : Nat} {v : Value} {ys : List Value} (h : W.ownsRow B 56 4 v (n + 1) ys) : ∃ g c, v = .slice (some ⟨g, 0, none⟩) (n + 1) c := by
  rcases h.2 with ⟨_, h0⟩ | ⟨g, cap, cur, e, _⟩
  · simp at h0
  · exact ⟨g, cap, e⟩
theorem SrIs.stored {w W : World} {q : Nat} {ep : Int} {o : Option (List W4)} {mr : Bool} {lr : List UInt8} {us : List W4} {x y : Value} (h1 : W.heap[w.heap.size]? = some (rb 0 (.slice none 0 0))) (h2 : W.heap[q]? = some (rb ep y)) (h3 : Wraps w.heap.size x us W)
    (h4 : Below w.heap.size w W) (h5 : w.heap.size < q) (h6 : o = (sWs (401 - us.length) mr lr).map (us ++ ·)) (h7 : us.length ≤ 401) (h8 : lr.length ≤ 1048576) : SrIs w q ep o mr lr us x (W.setCell ⟨q, 1, none⟩ x) := by
  have e1 : (W.setCell ⟨q, 1, none⟩ x).heap[q]? = some (rb ep x) := by
    simp only [World.setCell, Array.getElem?_modify, h2]
    simp
  have g : W.grownBy (W.setCell ⟨q, 1, none⟩ x) (some q) := ⟨rfl, rfl, rfl, by simp [World.setCell], fun i hi hne => by
    have hq : ¬ q = i := fun e => hne (by rw [e])
    simp [World.setCell, Array.getElem?_modify, hq]⟩
  exact ⟨(g.block _ (cell_lt (blk2 h1).1) (by simp; omega)).trans h1, e1, wrapsKept h3 g (fun k e => by cases e; exact wraps_ne h3 h2 (by decide)), h4.grown g h4.size (fun j e => by cases e; omega), h5, h6, h7, h8⟩

set_option maxRecDepth 100000 in
set_option maxHeartbeats 4000000 in
theorem specReadRekey_any (l : List UInt8) (w : World) (hl : l.length ≤ 1048576) :
    Calls Tryz.prog 17 #[st l] w fun e w' => ∃ x, e = .returned (.tuple #[rv (specRk l).1 x, .bool (specRk l).2.2]) ∧ Wraps w.heap.size x (specRk l).2.1 w' ∧ Below w.heap.size w w' := by
  obtain ⟨i0, hii, hz0, hz1, hz2⟩ := info_parts' infoWr
  have HC := cut_len 32 l
  have HSR := hidT (specRk_end l)
  generalize specRk l = sr at HSR ⊢
  have B1 := hidT (oneB w (rb 0 (.slice none 0 0)))
  have P1 := hidT (heap_new w (rb 0 (.slice none 0 0)))
  go_enter Tryz.func17, Tryz.ntmps17
  go_wp2_with fail
  refine (l1Cut_any 32 l _ hl).mono ?_
  rintro e w1 ⟨rfl, q1, rfl⟩
  have B1 := hidT (below_drewN B1.out q1)
  have P1 : Hid (((w.alloc (rb 0 (.slice none 0 0))).drewN q1).heap[w.heap.size]? = some (rb 0 (.slice none 0 0))) := P1.out
  generalize (w.alloc (rb 0 (.slice none 0 0))).drewN q1 = w1 at B1 P1 ⊢
  generalize cut 32 l = cc at HC HSR ⊢
  obtain ⟨wd, rest, fnd⟩ := cc
  have hrl : rest.length ≤ 1048576 := Nat.le_trans HC.2 hl
  clear HC
  have HC := cut_len 32 rest
  go_wp2_with fail
  refine (l1Cut_any 32 rest _ hrl).mono ?_
  rintro e w2 ⟨rfl, q2, rfl⟩
  have B2 := hidT (below_drewN B1.out q2)
  have P2 : Hid ((w1.drewN q2).heap[w.heap.size]? = some (rb 0 (.slice none 0 0))) := P1.out
  generalize w1.drewN q2 = w2 at B2 P2 ⊢
  clear B1 P1
  have HSR := hidT (show sr = endRk l wd fnd (pInt (cut 32 rest).1).1 (sWs 401 (cut 32 rest).2.2 (cut 32 rest).2.1) from HSR.out)
  generalize cut 32 rest = cc at HC HSR ⊢
  obtain ⟨one, rest2, more2⟩ := cc
  have hol : one.length ≤ 1048576 := Nat.le_trans HC.1 hrl
  have hr2 : rest2.length ≤ 1048576 := Nat.le_trans HC.2 hrl
  clear HC
  go_wp2_with fail
  refine (l1Int_any one _ hol).mono ?_
  rintro e w3 ⟨rfl, hw3⟩
  subst hw3
  have HSR := hidT (show sr = endRk l wd fnd (pInt one).1 (sWs 401 more2 rest2) from HSR.out)
  generalize pInt one = pn at HSR ⊢
  obtain ⟨ep, okn⟩ := pn
  have HSR := hidT (show sr = endRk l wd fnd ep (sWs 401 more2 rest2) from HSR.out)
  have hpq : w.heap.size < w3.heap.size := cell_lt (blk2 P2.out).1
  obtain ⟨o, HO⟩ : ∃ o, Hid (sWs 401 more2 rest2 = o) := ⟨_, rfl⟩
  rw [HO.out] at HSR
  have HREL0 := hidT (show SrIs w w3.heap.size ep o more2 rest2 [] (.slice none 0 0) (w3.alloc (rb ep (.slice none 0 0))) from ⟨(heap_old _ _ hpq).trans P2.out, heap_new _ _, wraps_nil _ _, B2.out.alloc B2.out.size _, hpq, by rw [← HO.out]; simp, by simp, hr2⟩)
  clear P2 B2 HO
  go_wp2
  generalize w3.alloc (.cells #[.int .i64 ep, .slice none 0 0] 32) = w4 at HREL0 ⊢
  generalize hqd : w3.heap.size = q at HREL0 hpq ⊢
  clear hqd
  go_loopw [5, 8] (fun sv mv wr => ∃ lr mr us x, sv = st lr ∧ mv = .bool mr ∧ Hid (SrIs w q ep o mr lr us x wr)) (fun _ _ wr => 402 - rowLen q wr)
  case atStart => exact ⟨rest2, more2, [], _, rfl, rfl, HREL0⟩
  case round =>
    obtain ⟨lr, mr, us, x, rfl, rfl, HR⟩ := hrel
    clear HREL0
    obtain ⟨ax, cx, hx⟩ := wrapsRow HR.out.row
    obtain ⟨N, HLEN⟩ : ∃ n, Hid (us.length = n) := ⟨_, rfl⟩
    rw [HLEN.out] at hx
    subst hx
    have hlen := HR.out.len
    rw [HLEN.out] at hlen
    have hrowl := HR.out.rowLen
    rw [HLEN.out] at hrowl
    obtain ⟨c0, c1, f0, f1⟩ := blk2 HR.out.var
    obtain ⟨d0, d1, z0, z1⟩ := blk2 HR.out.res
    cases mr with
    | false =>
      have HE := hidT (show sr = endRk l wd fnd ep (some us) by rw [HSR.out, HR.out.parsed, sWs_false]; simp)
      by_cases hw : wd = wEpoch
      · have hw' : (wd == [101, 112, 111, 99, 104]) = true := by simpa using hw
        have HW := hidT hw
        clear hw
        cases fnd with
        | false =>
          have HZ := hidT (show sr = (0, [], false) by rw [HE.out, endRk, if_neg (by simp)])
          have HT := hidT (set2 (.int .i64 0) (.slice none 0 0) HR.out.res)
          have B9 := hidT (HR.out.below.grown HT.out.2 HR.out.below.size (fun j e => by cases e; exact Nat.le_refl _))
          have P9 := hidT HT.out.1
          clear HT
          go_wp2
          generalize ((wr.setCell ⟨w.heap.size, 0, none⟩ (.int .i64 0)).setCell ⟨w.heap.size, 1, none⟩ (.slice none 0 0)) = w9 at B9 P9 ⊢
          obtain ⟨e0, e1, _, _⟩ := blk2 P9.out
          exact bodyPost_ret (v := .tuple #[rv 0 (.slice none 0 0), .bool false]) (by simp [results, Tryz.results17, go_sem, e0, e1]) rfl ⟨.slice none 0 0, by rw [HZ.out], by rw [HZ.out]; exact wraps_nil _ _, B9.out⟩
        | true =>
          go_wp2_with fail
          refine (specRekeyText_any ep HR.out.row).mono ?_
          rintro e w5 ⟨rfl, hb5⟩
          have H5 := hidT (HR.out.since hb5)
          clear hb5 c0 c1 f0 f1 d0 d1 z0 z1
          obtain ⟨c0, c1, f0, f1⟩ := blk2 H5.out.var
          obtain ⟨d0, d1, z0, z1⟩ := blk2 H5.out.res
          by_cases ht : rekText ep us = l
          · have HZ := hidT (show sr = (ep, us, true) by rw [HE.out, endRk, if_pos ⟨HW.out, rfl, ht⟩])
            rw [ht]
            clear ht
            have HT := hidT (set2 (.int .i64 ep) (.slice ax N cx) H5.out.res)
            have B9 := hidT (H5.out.below.grown HT.out.2 H5.out.below.size (fun j e => by cases e; exact Nat.le_refl _))
            have X9 := hidT (wrapsKept H5.out.row HT.out.2 (fun k e => by cases e; exact wraps_ne H5.out.row H5.out.res (by decide)))
            have P9 := hidT HT.out.1
            clear HT
            go_wp2
            generalize ((w5.setCell ⟨w.heap.size, 0, none⟩ (.int .i64 ep)).setCell ⟨w.heap.size, 1, none⟩ (.slice ax N cx)) = w9 at B9 P9 X9 ⊢
            obtain ⟨e0, e1, _, _⟩ := blk2 P9.out
            exact bodyPost_ret (v := .tuple #[rv ep (.slice ax N cx), .bool true]) (by simp [results, Tryz.results17, go_sem, e0, e1]) rfl ⟨.slice ax N cx, by rw [HZ.out], by rw [HZ.out]; exact X9.out, B9.out⟩
          · have ht' : (rekText ep us == l) = false := by simpa using ht
            have HZ := hidT (show sr = (0, [], false) by rw [HE.out, endRk, if_neg (by simp [ht])])
            clear ht
            have HT := hidT (set2 (.int .i64 0) (.slice none 0 0) H5.out.res)
            have B9 := hidT (H5.out.below.grown HT.out.2 H5.out.below.size (fun j e => by cases e; exact Nat.le_refl _))
            have P9 := hidT HT.out.1
            clear HT
            go_wp2
            generalize ((w5.setCell ⟨w.heap.size, 0, none⟩ (.int .i64 0)).setCell ⟨w.heap.size, 1, none⟩ (.slice none 0 0)) = w9 at B9 P9 ⊢
            obtain ⟨e0, e1, _, _⟩ := blk2 P9.out
            exact bodyPost_ret (v := .tuple #[rv 0 (.slice none 0 0), .bool false]) (by simp [results, Tryz.results17, go_sem, e0, e1]) rfl ⟨.slice none 0 0, by rw [HZ.out], by rw [HZ.out]; exact wraps_nil _ _, B9.out⟩
      · have hw' : (wd == [101, 112, 111, 99, 104]) = false := by simpa using hw
        have HZ := hidT (show sr = (0, [], false) by rw [HE.out, endRk, if_neg (by simp [hw])])
        clear hw
        have HT := hidT (set2 (.int .i64 0) (.slice none 0 0) HR.out.res)
        have B9 := hidT (HR.out.below.grown HT.out.2 HR.out.below.size (fun j e => by cases e; exact Nat.le_refl _))
        have P9 := hidT HT.out.1
        clear HT
        go_wp2
        generalize ((wr.setCell ⟨w.heap.size, 0, none⟩ (.int .i64 0)).setCell ⟨w.heap.size, 1, none⟩ (.slice none 0 0)) = w9 at B9 P9 ⊢
        obtain ⟨e0, e1, _, _⟩ := blk2 P9.out
        exact bodyPost_ret (v := .tuple #[rv 0 (.slice none 0 0), .bool false]) (by simp [results, Tryz.results17, go_sem, e0, e1]) rfl ⟨.slice none 0 0, by rw [HZ.out], by rw [HZ.out]; exact wraps_nil _ _, B9.out⟩
    | true =>
      by_cases h400 : (N : Int) ≤ 400
      · obtain ⟨f, HF⟩ : ∃ f, Hid (401 - us.length = f + 1 ∧ f = 400 - N) := ⟨400 - N, by rw [HLEN.out]; omega, rfl⟩
        have HPS := hidT (show o = (sWs (f + 1) true lr).map (us ++ ·) by rw [← HF.out.1]; exact HR.out.parsed)
        rw [sWs_succ] at HPS
        have HC := cut_len 32 lr
        go_wp2_with fail
        refine (l1Cut_any 32 lr _ HR.out.lrLen).mono ?_
        rintro e w5 ⟨rfl, q5, rfl⟩
        have H5 := hidT (HR.out.since (below_drewN (Below.refl _ _) q5))
        have hlr := HR.out.lrLen
        generalize wr.drewN q5 = w5 at H5 ⊢
        clear HR c0 c1 f0 f1 d0 d1 z0 z1
        generalize cut 32 lr = cc at HC HPS ⊢
        obtain ⟨a1, lr2, mr2⟩ := cc
        have HPS := hidT (show o = (if (sOne a1).2 = true then (sWs f mr2 lr2).map ((sOne a1).1 :: ·) else none).map (us ++ ·) from HPS.out)
        have hal : a1.length ≤ 1048576 := Nat.le_trans HC.1 hlr
        have hl2 : lr2.length ≤ 1048576 := Nat.le_trans HC.2 hlr
        clear HC
        have HC := cut_len 62 a1
        go_wp2_with fail
        refine (l1Cut_any 62 a1 _ hal).mono ?_
        rintro e w6 ⟨rfl, q6, rfl⟩
        have H6 := hidT (H5.out.since (below_drewN (Below.refl _ _) q6))
        generalize w5.drewN q6 = w6 at H6 ⊢
        clear H5
        have HPS := hidT (show o = (if ((sKey (cut 62 a1).1).2 && (sKey (cut 62 a1).2.1).2) = true then (sWs f mr2 lr2).map (((sKey (cut 62 a1).1).1.1, (sKey (cut 62 a1).1).1.2, (sKey (cut 62 a1).2.1).1.1, (sKey (cut 62 a1).2.1).1.2) :: ·) else none).map (us ++ ·) from HPS.out)
        generalize cut 62 a1 = cc at HC HPS ⊢
        obtain ⟨ka, kb', fk⟩ := cc
        have HPS := hidT (show o = (if ((sKey ka).2 && (sKey kb').2) = true then (sWs f mr2 lr2).map (((sKey ka).1.1, (sKey ka).1.2, (sKey kb').1.1, (sKey kb').1.2) :: ·) else none).map (us ++ ·) from HPS.out)
        have hka : ka.length ≤ 1048576 := Nat.le_trans HC.1 hal
        have hkb : kb'.length ≤ 1048576 := Nat.le_trans HC.2 hal
        clear HC
        go_wp2_with fail
        refine (l8Read_any ka _ hka).mono ?_
        rintro e w7 ⟨rfl, hb7⟩
        have H7 := hidT (H6.out.since hb7)
        clear hb7 H6
        generalize sKey ka = s1 at HPS ⊢
        obtain ⟨⟨k1, k2⟩, okA⟩ := s1
        have H7a := hidT (H7.out.since (oneB w7 (kb k1 k2)))
        have K7a := hidT (heap_new w7 (kb k1 k2))
        go_wp2_with fail
        refine (l8Read_any kb' _ hkb).mono ?_
        rintro e w8 ⟨rfl, hb8⟩
        have H8 := hidT (H7a.out.since hb8)
        have K8 := hidT ((hb8.block _ (cell_lt (blk2 K7a.out).1)).trans K7a.out)
        clear hb8 H7a K7a H7
        generalize sKey kb' = s2 at HPS ⊢
        obtain ⟨⟨k3, k4⟩, okB⟩ := s2
        have HPS := hidT (show o = (if (okA && okB) = true then (sWs f mr2 lr2).map ((k1, k2, k3, k4) :: ·) else none).map (us ++ ·) from HPS.out)
        have h78 : w7.heap.size < w8.heap.size := cell_lt (blk2 K8.out).1
        have H8a := hidT (H8.out.since (oneB w8 (kb k3 k4)))
        have K8a := hidT ((heap_old w8 (kb k3 k4) h78).trans K8.out)
        have J8a := hidT (heap_new w8 (kb k3 k4))
        have hr8 : ¬ w.heap.size = w8.heap.size := by have := cell_lt (blk2 H8.out.res).1; simp only at this; omega
        have hq8 : ¬ q = w8.heap.size := by have := cell_lt (blk2 H8.out.var).1; simp only at this; omega
        cases okA with
        | false =>
          have HZ := hidT (show sr = (0, [], false) by rw [HSR.out, HPS.out]; simp [endRk])
          obtain ⟨d0, d1, z0, z1⟩ := blk2 H8a.out.res
          have HT := hidT (set2 (.int .i64 0) (.slice none 0 0) H8a.out.res)
          have B9 := hidT (H8a.out.below.grown HT.out.2 H8a.out.below.size (fun j e => by cases e; exact Nat.le_refl _))
          have P9 := hidT HT.out.1
          clear HT
          go_wp2
          generalize (((w8.alloc (kb k3 k4)).setCell ⟨w.heap.size, 0, none⟩ (.int .i64 0)).setCell ⟨w.heap.size, 1, none⟩ (.slice none 0 0)) = w9 at B9 P9 ⊢
          obtain ⟨e0, e1, _, _⟩ := blk2 P9.out
          exact bodyPost_ret (v := .tuple #[rv 0 (.slice none 0 0), .bool false]) (by simp [results, Tryz.results17, go_sem, e0, e1]) rfl ⟨.slice none 0 0, by rw [HZ.out], by rw [HZ.out]; exact wraps_nil _ _, B9.out⟩
        | true =>
          cases okB with
          | false =>
            have HZ := hidT (show sr = (0, [], false) by rw [HSR.out, HPS.out]; simp [endRk])
            obtain ⟨d0, d1, z0, z1⟩ := blk2 H8a.out.res
            have HT := hidT (set2 (.int .i64 0) (.slice none 0 0) H8a.out.res)
            have B9 := hidT (H8a.out.below.grown HT.out.2 H8a.out.below.size (fun j e => by cases e; exact Nat.le_refl _))
            have P9 := hidT HT.out.1
            clear HT
            go_wp2
            generalize (((w8.alloc (kb k3 k4)).setCell ⟨w.heap.size, 0, none⟩ (.int .i64 0)).setCell ⟨w.heap.size, 1, none⟩ (.slice none 0 0)) = w9 at B9 P9 ⊢
            obtain ⟨e0, e1, _, _⟩ := blk2 P9.out
            exact bodyPost_ret (v := .tuple #[rv 0 (.slice none 0 0), .bool false]) (by simp [results, Tryz.results17, go_sem, e0, e1]) rfl ⟨.slice none 0 0, by rw [HZ.out], by rw [HZ.out]; exact wraps_nil _ _, B9.out⟩
          | true =>
            have HPT := hidT (show o = (sWs f mr2 lr2).map ((us ++ [(k1, k2, k3, k4)]) ++ ·) by rw [HPS.out]; simp [Function.comp_def])
            clear HPS
            obtain ⟨c0, c1, f0, f1⟩ := blk2 H8.out.var
            obtain ⟨p0, p1, _, _⟩ := blk2 K8.out
            have hq9 : q < w8.heap.size := cell_lt c0
            clear hq8
            have hsz := H8.out.below.size
            have HXN := hidT (show ∀ j, (Value.slice ax N cx).ownBlock = some j → w.heap.size ≤ j ∧ j ≠ w.heap.size ∧ j ≠ q from fun j e => ⟨(World.ownsRow.lt H8a.out.row j e).1, fun e' => wraps_ne H8a.out.row H8a.out.res (by decide) (e' ▸ e), fun e' => wraps_ne H8a.out.row H8a.out.var (by decide) (e' ▸ e)⟩)
            have H9 := hidT (H8a.out.since (oneB (w8.alloc (kb k3 k4)) (wb k1 k2 k3 k4)))
            have C9 := hidT (cell_four (w8.alloc (kb k3 k4)) (.int .i64 k1) (.int .i64 k2) (.int .i64 k3) (.int .i64 k4) 56)
            rw [World.size_alloc] at C9
            have O9 := hidT (wraps_own H8a.out.row HLEN.out (wb k1 k2 k3 k4))
            go_wp2_with (at_builtin; refine wpList_append_own _ rfl _ _ 30 rfl w.heap.size 56 i0 (.agg #[.int .i64 0, .int .i64 0, .int .i64 0, .int .i64 0]) 4 32 Tryz.underlying30 hii hz0 hz1 hz2 rfl (by decide) _ _ _ rfl O9.out ⟨w8.heap.size + 1, 0, none⟩ 1 1 [.int .i64 k1, .int .i64 k2, .int .i64 k3, .int .i64 k4] rfl rfl C9.out (by simp [Value.oneCell']) (by unfold maxLen; omega) (by omega) (by simp; omega) ?_; intro v' w11 hown' hgrow _; obtain ⟨gB, cB, rfl⟩ := row_form hown'; obtain ⟨y0, y1, y2, y3⟩ := blk2 ((hgrow.block q (cell_lt (blk2 H9.out.var).1) (fun e => (HXN.out _ e.symm).2.2 rfl)).trans H9.out.var))
            have V11 := hidT ((hgrow.block q (cell_lt (blk2 H9.out.var).1) (fun e => (HXN.out _ e.symm).2.2 rfl)).trans H9.out.var)
            have R11 := hidT ((hgrow.block _ (cell_lt (blk2 H9.out.res).1) (fun e => (HXN.out _ e.symm).2.1 rfl)).trans H9.out.res)
            have B11 := hidT (H9.out.below.grown hgrow H9.out.below.size (fun j e => (HXN.out j e).1))
            have W11 : Hid (Wraps w.heap.size (.slice (some ⟨gB, 0, none⟩) (N + 1) cB) (us ++ [(k1, k2, k3, k4)]) w11) := wraps_of hown' (by rw [wcells_append]; rfl) (by simp [HLEN.out])
            have H12 := hidT (SrIs.stored (ep := ep) (o := o) (mr := mr2) (lr := lr2) R11.out V11.out W11.out B11.out hpq (by rw [HPT.out, show 401 - (us ++ [(k1, k2, k3, k4)]).length = f by simp [HLEN.out]; have := HF.out.2; omega]) (by simp [HLEN.out]; omega) hl2)
            go_roundw
            case rel => exact ⟨_, _, _, _, rfl, rfl, H12⟩
            case measure =>
              rw [H12.out.rowLen, hrowl]
              simp [HLEN.out]
              omega
      · have HE := hidT (show sr = endRk l wd fnd ep (some us) by rw [HSR.out, HR.out.parsed, show 401 - us.length = 0 by rw [HLEN.out]; omega, sWs_zero]; simp)
        by_cases hw : wd = wEpoch
        · have hw' : (wd == [101, 112, 111, 99, 104]) = true := by simpa using hw
          have HW := hidT hw
          clear hw
          cases fnd with
          | false =>
            have HZ := hidT (show sr = (0, [], false) by rw [HE.out, endRk, if_neg (by simp)])
            have HT := hidT (set2 (.int .i64 0) (.slice none 0 0) HR.out.res)
            have B9 := hidT (HR.out.below.grown HT.out.2 HR.out.below.size (fun j e => by cases e; exact Nat.le_refl _))
            have P9 := hidT HT.out.1
            clear HT
            go_wp2
            generalize ((wr.setCell ⟨w.heap.size, 0, none⟩ (.int .i64 0)).setCell ⟨w.heap.size, 1, none⟩ (.slice none 0 0)) = w9 at B9 P9 ⊢
            obtain ⟨e0, e1, _, _⟩ := blk2 P9.out
            exact bodyPost_ret (v := .tuple #[rv 0 (.slice none 0 0), .bool false]) (by simp [results, Tryz.results17, go_sem, e0, e1]) rfl ⟨.slice none 0 0, by rw [HZ.out], by rw [HZ.out]; exact wraps_nil _ _, B9.out⟩
          | true =>
            go_wp2_with fail
            refine (specRekeyText_any ep HR.out.row).mono ?_
            rintro e w5 ⟨rfl, hb5⟩
            have H5 := hidT (HR.out.since hb5)
            clear hb5 c0 c1 f0 f1 d0 d1 z0 z1
            obtain ⟨c0, c1, f0, f1⟩ := blk2 H5.out.var
            obtain ⟨d0, d1, z0, z1⟩ := blk2 H5.out.res
            by_cases ht : rekText ep us = l
            · have HZ := hidT (show sr = (ep, us, true) by rw [HE.out, endRk, if_pos ⟨HW.out, rfl, ht⟩])
              rw [ht]
              clear ht
              have HT := hidT (set2 (.int .i64 ep) (.slice ax N cx) H5.out.res)
              have B9 := hidT (H5.out.below.grown HT.out.2 H5.out.below.size (fun j e => by cases e; exact Nat.le_refl _))
              have X9 := hidT (wrapsKept H5.out.row HT.out.2 (fun k e => by cases e; exact wraps_ne H5.out.row H5.out.res (by decide)))
              have P9 := hidT HT.out.1
              clear HT
              go_wp2
              generalize ((w5.setCell ⟨w.heap.size, 0, none⟩ (.int .i64 ep)).setCell ⟨w.heap.size, 1, none⟩ (.slice ax N cx)) = w9 at B9 P9 X9 ⊢
              obtain ⟨e0, e1, _, _⟩ := blk2 P9.out
              exact bodyPost_ret (v := .tuple #[rv ep (.slice ax N cx), .bool true]) (by simp [results, Tryz.results17, go_sem, e0, e1]) rfl ⟨.slice ax N cx, by rw [HZ.out], by rw [HZ.out]; exact X9.out, B9.out⟩
            · have ht' : (rekText ep us == l) = false := by simpa using ht
              have HZ := hidT (show sr = (0, [], false) by rw [HE.out, endRk, if_neg (by simp [ht])])
              clear ht
              have HT := hidT (set2 (.int .i64 0) (.slice none 0 0) H5.out.res)
              have B9 := hidT (H5.out.below.grown HT.out.2 H5.out.below.size (fun j e => by cases e; exact Nat.le_refl _))
              have P9 := hidT HT.out.1
              clear HT
              go_wp2
              generalize ((w5.setCell ⟨w.heap.size, 0, none⟩ (.int .i64 0)).setCell ⟨w.heap.size, 1, none⟩ (.slice none 0 0)) = w9 at B9 P9 ⊢
              obtain ⟨e0, e1, _, _⟩ := blk2 P9.out
              exact bodyPost_ret (v := .tuple #[rv 0 (.slice none 0 0), .bool false]) (by simp [results, Tryz.results17, go_sem, e0, e1]) rfl ⟨.slice none 0 0, by rw [HZ.out], by rw [HZ.out]; exact wraps_nil _ _, B9.out⟩
        · have hw' : (wd == [101, 112, 111, 99, 104]) = false := by simpa using hw
          have HZ := hidT (show sr = (0, [], false) by rw [HE.out, endRk, if_neg (by simp [hw])])
          clear hw
          have HT := hidT (set2 (.int .i64 0) (.slice none 0 0) HR.out.res)
          have B9 := hidT (HR.out.below.grown HT.out.2 HR.out.below.size (fun j e => by cases e; exact Nat.le_refl _))
          have P9 := hidT HT.out.1
          clear HT
          go_wp2
          generalize ((wr.setCell ⟨w.heap.size, 0, none⟩ (.int .i64 0)).setCell ⟨w.heap.size, 1, none⟩ (.slice none 0 0)) = w9 at B9 P9 ⊢
          obtain ⟨e0, e1, _, _⟩ := blk2 P9.out
          exact bodyPost_ret (v := .tuple #[rv 0 (.slice none 0 0), .bool false]) (by simp [results, Tryz.results17, go_sem, e0, e1]) rfl ⟨.slice none 0 0, by rw [HZ.out], by rw [HZ.out]; exact wraps_nil _ _, B9.out⟩
end Tx
end Go.Proofs.YtapmgbnhobpahaaGreatDoor
/- OpText of the program; the exact law of OpText. -/
namespace Go.Proofs.YtapmgbnhobpahaaGreatDoor
open Go.RowKit
namespace Tx

set_option maxRecDepth 100000 in
theorem opText_any (k m : Int) (w : World) (hE : HasForm w) :
    Calls Tryz.prog 6 #[kv k m] w fun e w' => e = .returned (.string ⟨(opText k m).toArray⟩) ∧ Below w.heap.size w w' := by
  have hE1 := hidT (hE.since (oneB w (opb k m)))
  clear hE
  cases hF : formB k m with
  | false =>
    have HT := hidT (show opText k m = [] by simp [opText, hF])
    go_enter Tryz.func6, Tryz.ntmps6
    go_wp2_with fail
    refine (opOk_any _ _ _ hE1.out).mono ?_
    rintro e w1 ⟨rfl, hb⟩
    rw [hF]
    have HB := hidT ((oneB _ _).trans (hb.mono (by simp)))
    clear hb
    go_wp2
    go_ret
    exact ⟨by rw [HT.out]; rfl, HB.out⟩
  | true =>
    by_cases h1 : k = 1
    · subst h1
      have hm : 1 ≤ m ∧ m ≤ 20 := by simpa [formB] using hF
      obtain ⟨n, rfl⟩ : ∃ n : Nat, m = (n : Int) := ⟨m.toNat, by omega⟩
      have HT := hidT (show opText 1 (n : Int) = [106, 111, 105, 110, 32] ++ Lib.decDigits n by simp [opText, hF, opT])
      have hl := dec_len19 (u := n) (by omega)
      have ha := fun w => run_string_add_lists (P := Tryz.prog) w [106, 111, 105, 110, 32] (Lib.decDigits n) (by simp) (by omega)
      go_enter Tryz.func6, Tryz.ntmps6
      go_wp2_with fail
      refine (opOk_any _ _ _ hE1.out).mono ?_
      rintro e w1 ⟨rfl, hb⟩
      rw [hF]
      have hc0 : w1.cell? ⟨w.heap.size, 0, none⟩ = some (.int .i64 1) := ((bcell hb).1 _ 0 (by simp)).trans (by simp)
      have hc1 : w1.cell? ⟨w.heap.size, 1, none⟩ = some (.int .i64 (n : Int)) := ((bcell hb).1 _ 1 (by simp)).trans (by simp)
      have HB := hidT ((oneB _ _).trans (hb.mono (by simp)))
      clear hb
      go_wp2_with (go_at_call 23; refine (decimal_smallB n (by omega) _).mono ?_; rintro e w2 ⟨rfl, hb2⟩)
      go_ret
      exact ⟨by rw [HT.out]; rfl, HB.out.trans (hb2.mono HB.out.size)⟩
    by_cases h2 : k = 2
    · subst h2
      have hm : 1 ≤ m ∧ m ≤ 20 := by simpa [formB] using hF
      obtain ⟨n, rfl⟩ : ∃ n : Nat, m = (n : Int) := ⟨m.toNat, by omega⟩
      have HT := hidT (show opText 2 (n : Int) = [108, 101, 97, 118, 101, 32] ++ Lib.decDigits n by simp [opText, hF, opT])
      have hl := dec_len19 (u := n) (by omega)
      have ha := fun w => run_string_add_lists (P := Tryz.prog) w [108, 101, 97, 118, 101, 32] (Lib.decDigits n) (by simp) (by omega)
      go_enter Tryz.func6, Tryz.ntmps6
      go_wp2_with fail
      refine (opOk_any _ _ _ hE1.out).mono ?_
      rintro e w1 ⟨rfl, hb⟩
      rw [hF]
      have hc0 : w1.cell? ⟨w.heap.size, 0, none⟩ = some (.int .i64 2) := ((bcell hb).1 _ 0 (by simp)).trans (by simp)
      have hc1 : w1.cell? ⟨w.heap.size, 1, none⟩ = some (.int .i64 (n : Int)) := ((bcell hb).1 _ 1 (by simp)).trans (by simp)
      have HB := hidT ((oneB _ _).trans (hb.mono (by simp)))
      clear hb
      go_wp2_with (go_at_call 23; refine (decimal_smallB n (by omega) _).mono ?_; rintro e w2 ⟨rfl, hb2⟩)
      go_ret
      exact ⟨by rw [HT.out]; rfl, HB.out.trans (hb2.mono HB.out.size)⟩
    have h3 : k = 3 ∧ m = 0 := by simpa [formB, h1, h2] using hF
    obtain ⟨rfl, rfl⟩ := h3
    have HT := hidT (show opText 3 0 = [114, 101, 102, 114, 101, 115, 104] by simp [opText, hF, opT])
    go_enter Tryz.func6, Tryz.ntmps6
    go_wp2_with fail
    refine (opOk_any _ _ _ hE1.out).mono ?_
    rintro e w1 ⟨rfl, hb⟩
    rw [hF]
    have hc0 : w1.cell? ⟨w.heap.size, 0, none⟩ = some (.int .i64 3) := ((bcell hb).1 _ 0 (by simp)).trans (by simp)
    have HB := hidT ((oneB _ _).trans (hb.mono (by simp)))
    clear hb
    go_wp2
    go_ret
    exact ⟨by rw [HT.out]; rfl, HB.out⟩

theorem cells2 {w w' : World} {b : Nat} {x y : Value} (hb : Below w.heap.size w w') (h : b < w.heap.size) (h0 : w.cell? ⟨b, 0, none⟩ = some x) (h1 : w.cell? ⟨b, 1, none⟩ = some y) : w'.cell? ⟨b, 0, none⟩ = some x ∧ w'.cell? ⟨b, 1, none⟩ = some y :=
  ⟨((bcell hb).1 _ 0 h).trans h0, ((bcell hb).1 _ 1 h).trans h1⟩
end Tx
end Go.Proofs.YtapmgbnhobpahaaGreatDoor
/- Contracts of the reader that the drawn laws draw from: each of its methods returns, and turns its own block alone; no condition on the bytes. -/
namespace Go.Proofs.YtapmgbnhobpahaaGreatDoor
open Go.RowKit
namespace Q

/-- A reader lies in block R, at or beyond B; its bytes lie below B. -/
def Rd (B R : Nat) (W : World) : Prop :=
  ∃ (a : Option Addr) (len cap p : Nat), p ≤ len ∧ len ≤ maxLen ∧ B ≤ R ∧ W.heap[R]? = some (.cells #[.slice a len cap, .int .i64 p] 68) ∧
    ∀ i, i < len → ∃ b off x, a = some ⟨b, off, none⟩ ∧ b < B ∧ W.cell? ⟨b, off + i, none⟩ = some (.int .u8 x) ∧ 0 ≤ x ∧ x ≤ 255

theorem Rd.lt {B R : Nat} {W : World} (h : Rd B R W) : R < W.heap.size := by
  obtain ⟨a, len, cap, p, _, _, _, h3, _⟩ := h
  exact (Array.getElem?_eq_some_iff.1 h3).1
theorem Rd.le {B R : Nat} {W : World} (h : Rd B R W) : B ≤ R := by
  obtain ⟨a, len, cap, p, _, _, h3, _, _⟩ := h
  exact h3

/-- What turns neither the reader nor its bytes keeps the reader. -/
theorem Rd.kept {B R : Nat} {W W' : World} {row : Option Nat} (h : Rd B R W) (hg : W.grownBy W' row) (hne : ∀ j, row = some j → B ≤ j ∧ j ≠ R) : Rd B R W' := by
  obtain ⟨a, len, cap, p, h1, h2, hB, h3, h4⟩ := h
  refine ⟨a, len, cap, p, h1, h2, hB, ?_, fun i hi => ?_⟩
  · rw [hg.block R (Array.getElem?_eq_some_iff.1 h3).1 (fun e => (hne R e.symm).2 rfl)]; exact h3
  · obtain ⟨b, off, x, e, hb, hc, hx⟩ := h4 i hi
    exact ⟨b, off, x, e, hb, hg.cell hc (fun e => by have := (hne _ e.symm).1; simp at this; omega), hx⟩
theorem Rd.alloc {B R : Nat} {W : World} (h : Rd B R W) (o : Obj) : Rd B R (W.alloc o) := h.kept (World.grownBy_alloc _ _ none) (fun j e => by cases e)
theorem Rd.drewN {B R : Nat} {W : World} (h : Rd B R W) (n : Nat) : Rd B R (W.drewN n) := h

/-- A block that is not the row's stands. -/
theorem blk {W W' : World} {R k : Nat} {o : Obj} (hg : W.grownBy W' (some R)) (h : W.heap[k]? = some o) (hne : k ≠ R) : W'.heap[k]? = some o :=
  (hg.block k (Array.getElem?_eq_some_iff.1 h).1 (by simpa using hne)).trans h
theorem blk_new (W : World) (o : Obj) : (W.alloc o).heap[W.heap.size]? = some o := heap_alloc_new W o
theorem blk_old {W : World} {k : Nat} {o : Obj} (h : W.heap[k]? = some o) (o' : Obj) : (W.alloc o').heap[k]? = some o :=
  (Below.heap_alloc W o' k (Array.getElem?_eq_some_iff.1 h).1).trans h
theorem blk_lt {W : World} {k : Nat} {o : Obj} (h : W.heap[k]? = some o) : k < W.heap.size := (Array.getElem?_eq_some_iff.1 h).1

theorem grown_below {W W' : World} (h : Below W.heap.size W W') : W.grownBy W' none := ⟨h.os, h.tape, h.output, h.size, fun k hk _ => h.block k hk⟩
theorem below_grown {W W' : World} (h : W.grownBy W' none) : Below W.heap.size W W' := ⟨h.os, h.tape, h.output, h.size, fun k hk => h.block k hk (by simp)⟩
theorem grown_drewN (W : World) (n : Nat) (row : Option Nat) : W.grownBy (W.drewN n) row := ⟨rfl, rfl, rfl, Nat.le_refl _, fun _ _ _ => rfl⟩
theorem grown_drew (W : World) (row : Option Nat) : W.grownBy W.drew row := ⟨rfl, rfl, rfl, Nat.le_refl _, fun _ _ _ => rfl⟩
theorem grown_setCell (W : World) (b o : Nat) (v : Value) : W.grownBy (W.setCell ⟨b, o, none⟩ v) (some b) :=
  ⟨rfl, rfl, rfl, by simp [World.setCell], fun k _ hne => Below.heap_setCell _ _ _ _ (fun e => hne (by rw [e]))⟩

theorem l1Open_any (a : Option Addr) (len cap : Nat) (W : World) :
    Calls Tryz.prog 18 #[.slice a len cap] W fun e W' => e = .returned (.pointer (some ⟨W.heap.size, 0, none⟩)) ∧ W' = W.alloc (.cells #[.slice a len cap, .int .i64 0] 68) := by
  go_enter Tryz.func18, Tryz.ntmps18
  go_wp2
  go_ret
  exact ⟨rfl, rfl⟩

theorem rd_cells {R : Nat} {W : World} {u v : Value} {t : TypeId} (h : W.heap[R]? = some (.cells #[u, v] t)) :
    W.cell? ⟨R, 0, none⟩ = some u ∧ W.cell? ⟨R, 1, none⟩ = some v ∧ W.frozen? ⟨R, 0, none⟩ = false ∧ W.frozen? ⟨R, 1, none⟩ = false := by
  simp [World.cell?, World.frozen?, h]
theorem rd_set {R : Nat} {W : World} {u v v' : Value} {t : TypeId} (h : W.heap[R]? = some (.cells #[u, v] t)) :
    (W.setCell ⟨R, 1, none⟩ v').heap[R]? = some (.cells #[u, v'] t) := by
  simp [World.setCell, Array.getElem?_modify, h]

theorem put2 {R : Nat} {W : World} {u v : Value} {t : TypeId} (h : W.heap[R]? = some (.cells #[u, v] t)) (u' v' : Value) :
    ((W.setCell ⟨R, 0, none⟩ u').setCell ⟨R, 1, none⟩ v').heap[R]? = some (.cells #[u', v'] t) := by
  simp [World.setCell, Array.getElem?_modify, h]
theorem grown_put2 (W : World) (R : Nat) (u' v' : Value) : W.grownBy ((W.setCell ⟨R, 0, none⟩ u').setCell ⟨R, 1, none⟩ v') (some R) := (grown_setCell _ _ _ _).trans (grown_setCell _ _ _ _)

set_option maxHeartbeats 400000 in
theorem next_any (B R : Nat) (W : World) (h : Rd B R W) :
    Calls Tryz.prog 59 #[.pointer (some ⟨R, 0, none⟩)] W fun e W' => ∃ x : Int, 0 ≤ x ∧ x ≤ 255 ∧ e = .returned (.int .i64 x) ∧ Rd B R W' ∧ W.grownBy W' (some R) := by
  obtain ⟨a, len, cap, p, h1, h2, hB, h3, h4⟩ := h
  obtain ⟨c0, c1, f0, f1⟩ := rd_cells h3
  unfold maxLen at h2
  by_cases hp : p < len
  · obtain ⟨b, off, x, rfl, hb, hc, hx0, hx1⟩ := h4 p hp
    go_enter Tryz.func59, Tryz.ntmps59
    go_wp2
    go_quiet (fail)
    go_wp2
    have k3 : ((W.drewN nq).setCell ⟨R, 1, none⟩ (.int .i64 ((p : Int) + 1))).heap[R]? = some (.cells #[.slice (some ⟨b, off, none⟩) len cap, .int .i64 ((p : Int) + 1)] 68) := rd_set (W := W.drewN nq) h3
    have g1 : W.grownBy ((W.drewN nq).setCell ⟨R, 1, none⟩ (.int .i64 ((p : Int) + 1))) (some R) := (grown_drewN W nq _).trans (grown_setCell _ _ _ _)
    generalize (W.drewN nq).setCell ⟨R, 1, none⟩ (.int .i64 ((p : Int) + 1)) = W1 at k3 g1 ⊢
    clear c0 c1 f0 f1
    obtain ⟨c0, c1, f0, f1⟩ := rd_cells k3
    have hc1 : W1.cell? ⟨b, off + p, none⟩ = some (.int .u8 x) := g1.cell hc (by simp; omega)
    clear hc
    go_quiet (fail)
    go_wp2
    go_ret
    refine ⟨x, hx0, hx1, rfl, ⟨_, len, cap, p + 1, by omega, by unfold maxLen; omega, hB, by simpa using k3, fun i hi => ?_⟩, g1.trans (grown_drewN W1 nq _)⟩
    obtain ⟨b', off', y, e, hb', hc', hy⟩ := h4 i hi
    exact ⟨b', off', y, e, hb', g1.cell hc' (by simp; omega), hy⟩
  · go_enter Tryz.func59, Tryz.ntmps59
    go_wp2
    go_quiet (fail)
    go_wp2
    go_ret
    exact ⟨0, by omega, by omega, rfl, ⟨a, len, cap, p, h1, by unfold maxLen; omega, hB, h3, h4⟩, grown_drewN W nq _⟩

theorem below_any (B R : Nat) (n : Int) (W : World) (h : Rd B R W) (h1 : 1 ≤ n) (h2 : n ≤ 65536) :
    Calls Tryz.prog 40 #[.pointer (some ⟨R, 0, none⟩), .int .i64 n] W fun e W' => ∃ x : Int, 0 ≤ x ∧ x < n ∧ e = .returned (.int .i64 x) ∧ Rd B R W' ∧ W.grownBy W' (some R) := by
  by_cases e1 : n ≤ 1
  · go_enter Tryz.func40, Tryz.ntmps40
    go_wp2
    go_ret
    exact ⟨0, by omega, by omega, rfl, h, World.grownBy.refl _ _⟩
  · by_cases e2 : n ≤ 256
    · go_enter Tryz.func40, Tryz.ntmps40
      go_wp2_with (go_at_call 59; refine (next_any B R _ h).mono ?_; rintro e w' ⟨x, hx0, hx1, rfl, hR, hg⟩)
      go_ret
      exact ⟨x % n, Int.emod_nonneg _ (by omega), Int.emod_lt_of_pos _ (by omega), rfl, hR, hg⟩
    · go_enter Tryz.func40, Tryz.ntmps40
      go_wp2_with fail
      refine (next_any B R _ h).mono ?_
      rintro e w1 ⟨x, hx0, hx1, rfl, hR, hg⟩
      go_wp2_with fail
      refine (next_any B R _ hR).mono ?_
      rintro e w2 ⟨y, hy0, hy1, rfl, hR2, hg2⟩
      go_wp2
      go_ret
      exact ⟨(x * 256 + y) % n, Int.emod_nonneg _ (by omega), Int.emod_lt_of_pos _ (by omega), rfl, hR2, hg.trans hg2⟩

theorem once_any (B R : Nat) (n : Int) (W : World) (h : Rd B R W) (h1 : 1 ≤ n) (h2 : n ≤ 65536) :
    Calls Tryz.prog 20 #[.pointer (some ⟨R, 0, none⟩), .int .i64 n] W fun e W' => ∃ x : Bool, e = .returned (.bool x) ∧ Rd B R W' ∧ W.grownBy W' (some R) := by
  go_enter Tryz.func20, Tryz.ntmps20
  go_wp2_with (go_at_call 40; refine (below_any B R _ _ h h1 h2).mono ?_; rintro e w' ⟨x, hx0, hx1, rfl, hR, hg⟩)
  go_ret
  exact ⟨_, rfl, hR, hg⟩

set_option maxHeartbeats 400000 in
theorem word_any (B R : Nat) (W : World) (h : Rd B R W) :
    Calls Tryz.prog 60 #[.pointer (some ⟨R, 0, none⟩)] W fun e W' => ∃ x : Int, 0 ≤ x ∧ x < 18446744073709551616 ∧ e = .returned (.int .u64 x) ∧ Rd B R W' ∧ W.grownBy W' (some R) := by
  go_enter Tryz.func60, Tryz.ntmps60
  go_wp2
  go_loopw [3, 4] (fun t i wr => ∃ (k : Nat) (x : Int), k ≤ 8 ∧ i = .int .i64 k ∧ t = .int .u64 x ∧ 0 ≤ x ∧ x < 18446744073709551616 ∧ Rd B R wr ∧ W.grownBy wr (some R)) (fun _ i _ => 8 - (intOf i).toNat)
  case atStart => exact ⟨0, 0, by omega, rfl, rfl, by omega, by omega, h, World.grownBy.refl _ _⟩
  case round =>
    obtain ⟨k, x, hk, rfl, rfl, hx0, hx1, hR, hg⟩ := hrel
    by_cases hlt : k < 8
    · go_wp2_with (go_at_call 59; refine (next_any B R _ hR).mono ?_; rintro e w' ⟨y, hy0, hy1, rfl, hR', hg'⟩)
      go_roundw
      case rel => exact ⟨k + 1, _, by omega, by go_num, rfl, (bounds_u64 (wf_bits _ _ _ _)).1, by have := (bounds_u64 (wf_bits .or .u64 (IntKind.u64.wrap (x * 256)) y)).2; omega, hR', hg.trans hg'⟩
      case measure => simp [intOf]; omega
    · go_wp2
      go_ret
      exact ⟨x, hx0, hx1, rfl, hR, hg⟩

set_option maxHeartbeats 400000 in
theorem near_any (B R : Nat) (lo hi : Int) (W : World) (h : Rd B R W) (h0 : -1000000000000 ≤ lo) (h1 : lo ≤ hi) (h2 : hi ≤ 1000000000000) :
    Calls Tryz.prog 41 #[.pointer (some ⟨R, 0, none⟩), .int .i64 lo, .int .i64 hi] W fun e W' => ∃ x : Int, lo ≤ x ∧ x ≤ hi ∧ e = .returned (.int .i64 x) ∧ Rd B R W' ∧ W.grownBy W' (some R) := by
  go_enter Tryz.func41, Tryz.ntmps41
  go_wp2_with fail
  refine (below_any B R _ _ h (by omega) (by omega)).mono ?_
  rintro e w1 ⟨x, hx0, hx1, rfl, hR, hg⟩
  by_cases e0 : x = 0
  · subst e0
    go_wp2
    go_ret
    exact ⟨lo, by omega, by omega, rfl, hR, hg⟩
  · by_cases e1 : x = 1
    · subst e1
      go_wp2
      go_ret
      exact ⟨hi, by omega, by omega, rfl, hR, hg⟩
    · have e0' : (x == 0) = false := by simpa using e0
      have e1' : (x == 1) = false := by simpa using e1
      have e2 : ¬ hi < lo := by omega
      go_wp2_with fail
      refine (word_any B R _ hR).mono ?_
      rintro e w2 ⟨y, hy0, hy1, rfl, hR2, hg2⟩
      go_wp2
      go_ret
      have q0 := Int.emod_nonneg (y / 2) (show hi - lo + 1 ≠ 0 by omega)
      have q1 := Int.emod_lt_of_pos (y / 2) (show 0 < hi - lo + 1 by omega)
      refine ⟨lo + y / 2 % (hi - lo + 1), by omega, by omega, ?_, hR2, hg.trans hg2⟩
      show Ending.returned (.int .i64 (wrap64 (lo + wrap64 (y / 2 % (hi - lo + 1))))) = _
      rw [IntWalk.wrap64_in (y / 2 % (hi - lo + 1)) ⟨by omega, by omega⟩, IntWalk.wrap64_in (lo + y / 2 % (hi - lo + 1)) ⟨by omega, by omega⟩]

theorem cell_lit4 (W : World) (t : TypeId) (a b c d : Value) (x : Int) (h0 : 0 ≤ x) (h1 : x < 4) : ∃ v, (v = a ∨ v = b ∨ v = c ∨ v = d) ∧ (W.alloc (.cells #[a, b, c, d] t)).cell? ⟨W.heap.size, x.toNat, none⟩ = some v := by
  have : x = 0 ∨ x = 1 ∨ x = 2 ∨ x = 3 := by omega
  rcases this with rfl | rfl | rfl | rfl
  · exact ⟨a, by simp, by simp⟩
  · exact ⟨b, by simp, by simp⟩
  · exact ⟨c, by simp, by simp⟩
  · exact ⟨d, by simp, by simp⟩

set_option maxHeartbeats 400000 in
theorem off_any (B R : Nat) (lo hi : Int) (W : World) (h : Rd B R W) (h0 : -1000000000000 ≤ lo) (h1 : lo ≤ hi) (h2 : hi ≤ 1000000000000) :
    Calls Tryz.prog 21 #[.pointer (some ⟨R, 0, none⟩), .int .i64 lo, .int .i64 hi] W fun e W' => ∃ x : Int, (Lit.int .i64 x).wf = true ∧ e = .returned (.int .i64 x) ∧ Rd B R W' ∧ W.grownBy W' (some R) := by
  go_enter Tryz.func21, Tryz.ntmps21
  go_wp2_with fail
  refine (once_any B R _ _ h (by omega) (by omega)).mono ?_
  rintro e w1 ⟨x, rfl, hR, hg⟩
  cases x with
  | false =>
    go_wp2_with fail
    refine (near_any B R _ _ _ hR h0 h1 h2).mono ?_
    rintro e w2 ⟨y, hy0, hy1, rfl, hR2, hg2⟩
    go_wp2
    go_ret
    exact ⟨y, WalkArith.wf_i64 (by omega), rfl, hR2, hg.trans hg2⟩
  | true =>
    go_wp2_with fail
    refine (below_any B R _ _ (hR.alloc _) (by omega) (by omega)).mono ?_
    rintro e w2 ⟨y, hy0, hy1, rfl, hR2, hg2⟩
    have hlt := hR.lt
    obtain ⟨v, hv, hc⟩ := cell_lit4 w1 2 (.int .i64 (lo - 1)) (.int .i64 (hi + 1)) (.int .i64 (-9223372036854775808)) (.int .i64 9223372036854775807) y hy0 hy1
    have hc2 := hg2.cell hc (by simp; omega)
    obtain ⟨z, rfl, hz⟩ : ∃ z, v = .int .i64 z ∧ (Lit.int .i64 z).wf = true := by
      rcases hv with rfl | rfl | rfl | rfl
      · exact ⟨_, rfl, WalkArith.wf_i64 (by omega)⟩
      · exact ⟨_, rfl, WalkArith.wf_i64 (by omega)⟩
      · exact ⟨_, rfl, by decide⟩
      · exact ⟨_, rfl, by decide⟩
    clear hv hc
    go_wp2
    go_ret
    exact ⟨z, hz, rfl, hR2, (hg.trans (World.grownBy_alloc _ _ _)).trans hg2⟩

end Q
end Go.Proofs.YtapmgbnhobpahaaGreatDoor
/- Lists of numbers in memory of the call's own: what the laws' helpers on them do. -/
namespace Go.Proofs.YtapmgbnhobpahaaGreatDoor
open Go.RowKit

/-- The slice v holds the numbers xs, in a block at or beyond B. -/
def Ints (B : Nat) (v : Value) (xs : List Int) (W : World) : Prop := W.ownsRow B 2 1 v xs.length (xs.map (Value.int .i64))

theorem Ints.kept {B : Nat} {v : Value} {xs : List Int} {W W' : World} {row : Option Nat} (h : Ints B v xs W) (hg : W.grownBy W' row) (hne : ∀ k, row = some k → v.ownBlock ≠ some k) : Ints B v xs W' := by
  refine World.ownsRow.kept h hg ?_
  cases row with
  | none => cases e : v.ownBlock <;> simp
  | some k => exact .inr (hne k rfl)
theorem Ints.mono {B B' : Nat} {v : Value} {xs : List Int} {W : World} (h : Ints B v xs W) (hB : B' ≤ B) : Ints B' v xs W := by
  refine ⟨h.1, ?_⟩
  rcases h.2 with hn | ⟨g, cap, cur, e, hb, rest⟩
  · exact .inl hn
  · exact .inr ⟨g, cap, cur, e, by omega, rest⟩
theorem Ints.lt {B : Nat} {v : Value} {xs : List Int} {W : World} (h : Ints B v xs W) : ∀ k, v.ownBlock = some k → B ≤ k ∧ k < W.heap.size := World.ownsRow.lt h

/-- The slice's own form: its length, and each of its cells. -/
theorem Ints.form {B : Nat} {v : Value} {xs : List Int} {W : World} (h : Ints B v xs W) :
    (v = .slice none 0 0 ∧ xs = []) ∨ ∃ g cap, v = .slice (some ⟨g, 0, none⟩) xs.length cap ∧ B ≤ g ∧ g < W.heap.size ∧ xs.length ≤ cap ∧ cap ≤ maxLen ∧
      ∀ i (hi : i < xs.length), W.cell? ⟨g, i, none⟩ = some (.int .i64 xs[i]) ∧ W.frozen? ⟨g, i, none⟩ = false := by
  obtain ⟨_, h2⟩ := h
  rcases h2 with ⟨e, hn⟩ | ⟨g, cap, cur, e, hb, hg, h1, h3, h4, h5⟩
  · exact .inl ⟨e, List.length_eq_zero_iff.1 hn⟩
  · refine .inr ⟨g, cap, e, hb, (Array.getElem?_eq_some_iff.1 hg).1, h1, h3, fun i hi => ?_⟩
    have hc : cur[i]? = some (.int .i64 xs[i]) := by
      have := congrArg (fun l => l[i]?) h5
      simp [hi] at this
      simpa [Nat.mul_one, hi] using this
    have hlt : i < cur.size := (Array.getElem?_eq_some_iff.1 hc).1
    refine ⟨by simp [World.cell?, hg, hc], by simp [World.frozen?, hg]⟩

theorem Ints.len_le {B : Nat} {v : Value} {xs : List Int} {W : World} (h : Ints B v xs W) : xs.length ≤ maxLen := by
  rcases h.form with ⟨_, rfl⟩ | ⟨g, cap, _, _, _, h1, h2, _⟩
  · exact Nat.zero_le _
  · omega


/-- Behind an append to a row of the call's own nothing below has turned. -/
theorem app_below {B : Nat} {v : Value} {xs : List Int} {w wr w2 : World} {o : Obj} (hI : Ints B v xs wr) (hB : Below B w wr) (hg : (wr.alloc o).grownBy w2 v.ownBlock) (hle : B ≤ wr.heap.size := by omega) : Below B w w2 :=
  (hB.alloc hle o).grown hg (by simp; omega) (fun k e => (hI.lt k e).1)
theorem Ints.drewN {B : Nat} {v : Value} {xs : List Int} {W : World} (h : Ints B v xs W) (n : Nat) : Ints B v xs (W.drewN n) := h
theorem Ints.below {B C : Nat} {v : Value} {xs : List Int} {W W' : World} (h : Ints B v xs W) (hb : Below C W W') (hC : ∀ k, v.ownBlock = some k → k < C) : Ints B v xs W' := by
  refine ⟨h.1, ?_⟩
  rcases h.2 with hn | ⟨g, cap, cur, rfl, hb', hg, rest⟩
  · exact .inl hn
  · refine .inr ⟨g, cap, cur, rfl, hb', ?_, rest⟩
    rw [hb.block g (hC g rfl)]
    exact hg

end Go.Proofs.YtapmgbnhobpahaaGreatDoor
/- What the exact laws' helpers on lists of numbers do. -/
namespace Go.Proofs.YtapmgbnhobpahaaGreatDoor
open Go.RowKit

def eqI (xs ys : List Int) : Bool := decide (xs = ys)
/-- Two rows that agree so far. -/
theorem eq_of_pre {xs ys : List Int} (hl : xs.length = ys.length) (h : ∀ i (hi : i < xs.length), xs[i] = ys[i]'(by omega)) : xs = ys := List.ext_getElem hl fun i h1 _ => h i h1

/-- The numbers k, k + 1 .. -/
def marks (k : Int) (n : Nat) : List Int := (List.range n).map fun (i : Nat) => k + (i : Int)
theorem marks_length (k : Int) (n : Nat) : (marks k n).length = n := by simp [marks]
theorem marks_get (k : Int) (n i : Nat) (h : i < (marks k n).length) : (marks k n)[i] = k + (i : Int) := by simp [marks]
/-- The row when j marks have been made. -/
def partMarks (k : Int) (xs : List Int) (j : Nat) : List Int := marks k j ++ xs.drop j
theorem partMarks_length (k : Int) (xs : List Int) (j : Nat) (h : j ≤ xs.length) : (partMarks k xs j).length = xs.length := by simp [partMarks, marks_length]; omega
theorem partMarks_set (k : Int) (xs : List Int) (j : Nat) (h : j < xs.length) : (partMarks k xs j).set j (k + (j : Int)) = partMarks k xs (j + 1) := by
  unfold partMarks
  rw [List.drop_eq_getElem_cons h]
  have : marks k (j + 1) = marks k j ++ [k + (j : Int)] := by simp [marks, List.range_succ]
  rw [this, List.append_assoc, List.set_append_right _ _ (by simp [marks_length])]
  simp [marks_length]
  rw [List.drop_eq_getElem_cons h, List.set_cons_zero]

end Go.Proofs.YtapmgbnhobpahaaGreatDoor
/- Lists of seats in memory, and what the exact laws' helpers on them do: toSeat, toSeatS, szSeatS. -/
namespace Go.Proofs.YtapmgbnhobpahaaGreatDoor
open Go.RowKit
abbrev sb (n v : Int) : Obj := .cells #[.int .i64 n, .int .i64 v] 114

/-- The slice v holds the keys ks, in a block at or beyond B. -/
def Seats (B : Nat) (v : Value) (ks : List (Int × Int)) (W : World) : Prop := W.ownsRow B 114 2 v ks.length (kcells ks)

theorem Seats.kept {B : Nat} {v : Value} {ks : List (Int × Int)} {W W' : World} {row : Option Nat} (h : Seats B v ks W) (hg : W.grownBy W' row) (hne : ∀ k, row = some k → v.ownBlock ≠ some k) : Seats B v ks W' := by
  refine World.ownsRow.kept h hg ?_
  cases row with
  | none => cases e : v.ownBlock <;> simp
  | some k => exact .inr (hne k rfl)
theorem Seats.mono {B B' : Nat} {v : Value} {ks : List (Int × Int)} {W : World} (h : Seats B v ks W) (hB : B' ≤ B) : Seats B' v ks W := by
  refine ⟨h.1, ?_⟩
  rcases h.2 with hn | ⟨g, cap, cur, e, hb, rest⟩
  · exact .inl hn
  · exact .inr ⟨g, cap, cur, e, by omega, rest⟩
theorem Seats.lt {B : Nat} {v : Value} {ks : List (Int × Int)} {W : World} (h : Seats B v ks W) : ∀ k, v.ownBlock = some k → B ≤ k ∧ k < W.heap.size := World.ownsRow.lt h
theorem Seats.drewN {B : Nat} {v : Value} {ks : List (Int × Int)} {W : World} (h : Seats B v ks W) (n : Nat) : Seats B v ks (W.drewN n) := h
theorem Seats.below {B C : Nat} {v : Value} {ks : List (Int × Int)} {W W' : World} (h : Seats B v ks W) (hb : Below C W W') (hC : ∀ k, v.ownBlock = some k → k < C) : Seats B v ks W' := by
  refine ⟨h.1, ?_⟩
  rcases h.2 with hn | ⟨g, cap, cur, rfl, hb', hg, rest⟩
  · exact .inl hn
  · refine .inr ⟨g, cap, cur, rfl, hb', ?_, rest⟩
    rw [hb.block g (hC g rfl)]
    exact hg

theorem Seats.form {B : Nat} {v : Value} {ks : List (Int × Int)} {W : World} (h : Seats B v ks W) :
    (v = .slice none 0 0 ∧ ks = []) ∨ ∃ g cap, v = .slice (some ⟨g, 0, none⟩) ks.length cap ∧ B ≤ g ∧ g < W.heap.size ∧ ks.length ≤ cap ∧ cap ≤ maxLen ∧ KSeg g 0 ks W ∧ ∀ o, W.frozen? ⟨g, o, none⟩ = false := by
  obtain ⟨_, h2⟩ := h
  rcases h2 with ⟨e, hn⟩ | ⟨g, cap, cur, e, hb, hg, h1, h3, h4, h5⟩
  · exact .inl ⟨e, List.length_eq_zero_iff.1 hn⟩
  · refine .inr ⟨g, cap, e, hb, (Array.getElem?_eq_some_iff.1 hg).1, h1, h3, fun i hi => ?_, fun o => by simp [World.frozen?, hg]⟩
    have hk := kcells_get ks i hi
    have c1 : cur[i * 2]? = some (.int .i64 ks[i].1) := by
      have h := hk.1
      rw [← h5, List.getElem?_take_of_lt (by omega)] at h
      simpa using h
    have c2 : cur[i * 2 + 1]? = some (.int .i64 ks[i].2) := by
      have h := hk.2
      rw [← h5, List.getElem?_take_of_lt (by omega)] at h
      simpa using h
    exact ⟨by simp [World.cell?, hg, c1], by simp [World.cell?, hg, c2]⟩

theorem infoSt : (Tryz.prog.info? 114).map (fun i => (i.zero, i.size, i.bytes)) = some (some (.agg #[.int .i64 0, .int .i64 0]), 2, 16) := by kernel_rfl

theorem Seats.stored {B g cap : Nat} {l : List (Int × Int)} {n : Nat} {W : World} (hn : l.length = n) (h : Seats B (.slice (some ⟨g, 0, none⟩) n cap) l W) (i : Nat) (hi : i < l.length) (a b : Int) :
    Seats B (.slice (some ⟨g, 0, none⟩) n cap) (l.set i (a, b)) ((W.setCell ⟨g, i * 2, none⟩ (.int .i64 a)).setCell ⟨g, i * 2 + 1, none⟩ (.int .i64 b)) ∧
      W.grownBy ((W.setCell ⟨g, i * 2, none⟩ (.int .i64 a)).setCell ⟨g, i * 2 + 1, none⟩ (.int .i64 b)) (some g) := by
  subst hn
  have h1 := World.ownsRow.stored h (i * 2) (.int .i64 a)
  have h2 := h1.1.stored (i * 2 + 1) (.int .i64 b)
  rw [kcells_set _ _ _ _ hi] at h2
  refine ⟨?_, h1.2.trans h2.2⟩
  unfold Seats
  rw [List.length_set]
  exact h2.1
/-- A list of the laws' keys, as it came in. -/
def InSeats (v : Value) (ks : List (Int × Int)) (W : World) : Prop :=
  (∃ a c, v = .slice a 0 c ∧ ks = []) ∨ ∃ b off c, v = .slice (some ⟨b, off, none⟩) ks.length c ∧ b < W.heap.size ∧ ks.length ≤ maxLen ∧ KSeg b off ks W
theorem InSeats.below {v : Value} {ks : List (Int × Int)} {W W' : World} {C : Nat} (h : InSeats v ks W) (hb : Below C W W') (hC : W.heap.size ≤ C) : InSeats v ks W' := by
  rcases h with h | ⟨b, off, c, e, hl, hm, hs⟩
  · exact .inl h
  · exact .inr ⟨b, off, c, e, by have := hb.size; omega, hm, hs.kept (hb.block b (by omega))⟩
theorem InSeats.len {v : Value} {ks : List (Int × Int)} {W : World} (h : InSeats v ks W) : ∃ a c, v = .slice a ks.length c ∧ ks.length ≤ maxLen := by
  rcases h with ⟨a, c, rfl, rfl⟩ | ⟨b, off, c, rfl, _, hm, _⟩
  · exact ⟨_, _, rfl, Nat.zero_le _⟩
  · exact ⟨_, _, rfl, hm⟩

end Go.Proofs.YtapmgbnhobpahaaGreatDoor
/- What the laws' comparison of two lists of keys does. -/
namespace Go.Proofs.YtapmgbnhobpahaaGreatDoor
open Go.RowKit

end Go.Proofs.YtapmgbnhobpahaaGreatDoor
/- Lists of numbers: what the exact laws' helpers do that lay them anew: toInt64S, szInt64S. -/
namespace Go.Proofs.YtapmgbnhobpahaaGreatDoor
open Go.RowKit

theorem infoI : (Tryz.prog.info? 2).map (fun i => (i.zero, i.size, i.bytes)) = some (some (.int .i64 0), 1, 8) := by kernel_rfl
/-- Numbers lie in block b from offset 'off' on. -/
def ISeg (b off : Nat) (xs : List Int) (W : World) : Prop := ∀ i (hi : i < xs.length), W.cell? ⟨b, off + i, none⟩ = some (.int .i64 xs[i])
theorem ISeg.kept {b off : Nat} {xs : List Int} {W W' : World} (h : ISeg b off xs W) (hb : W'.heap[b]? = W.heap[b]?) : ISeg b off xs W' := fun i hi =>
  (World.cell?_of_block (a := ⟨b, off + i, none⟩) hb).trans (h i hi)
def IRow (a : Option Addr) (xs : List Int) (w : World) : Prop := xs = [] ∨ ∃ g, a = some ⟨g, 0, none⟩ ∧ g < w.heap.size ∧ ISeg g 0 xs w
theorem Ints.row {B : Nat} {v : Value} {xs : List Int} {w : World} (h : Ints B v xs w) : ∃ a c, v = .slice a xs.length c ∧ xs.length ≤ maxLen ∧ IRow a xs w := by
  rcases h.form with ⟨rfl, rfl⟩ | ⟨g, cap, rfl, _, g1, h1, h2, h3⟩
  · exact ⟨_, _, rfl, Nat.zero_le _, .inl rfl⟩
  · exact ⟨_, _, rfl, by omega, .inr ⟨g, rfl, g1, fun i hi => by rw [Nat.zero_add]; exact (h3 i hi).1⟩⟩
theorem Seats.row {B : Nat} {v : Value} {ks : List (Int × Int)} {w : World} (h : Seats B v ks w) : ∃ a c, v = .slice a ks.length c ∧ ks.length ≤ maxLen ∧ KRow a ks w := by
  rcases h.form with ⟨rfl, rfl⟩ | ⟨g, cap, rfl, _, g1, h1, h2, h3, _⟩
  · exact ⟨_, _, rfl, Nat.zero_le _, .inl rfl⟩
  · exact ⟨_, _, rfl, by omega, .inr ⟨g, rfl, g1, h3⟩⟩
theorem Ints.since {B : Nat} {v : Value} {xs : List Int} {W W' : World} (h : Ints B v xs W) (hb : Below W.heap.size W W') : Ints B v xs W' := h.below hb (fun k e => (h.lt k e).2)
theorem Seats.since {B : Nat} {v : Value} {ks : List (Int × Int)} {W W' : World} (h : Seats B v ks W) (hb : Below W.heap.size W W') : Seats B v ks W' := h.below hb (fun k e => (h.lt k e).2)

def partInts (xs : List Int) (i : Nat) : List Int := xs.take i ++ List.replicate (xs.length - i) 0
theorem partInts_length (xs : List Int) (i : Nat) (h : i ≤ xs.length) : (partInts xs i).length = xs.length := by simp [partInts]; omega
theorem partInts_set (xs : List Int) (i : Nat) (h : i < xs.length) : (partInts xs i).set i xs[i] = partInts xs (i + 1) := by
  unfold partInts
  have e : xs.length - i = (xs.length - (i + 1)) + 1 := by omega
  have hl : (xs.take i).length = i := by simp; omega
  rw [e, List.replicate_succ, List.take_succ_eq_append_getElem h, List.append_assoc, List.set_append_right _ _ (by omega), hl, Nat.sub_self, List.set_cons_zero]
  rfl
theorem Ints.stored {B g cap : Nat} {l : List Int} {n : Nat} {W : World} (hn : l.length = n) (h : Ints B (.slice (some ⟨g, 0, none⟩) n cap) l W) (i : Nat) (_ : i < l.length) (a : Int) :
    Ints B (.slice (some ⟨g, 0, none⟩) n cap) (l.set i a) (W.setCell ⟨g, i, none⟩ (.int .i64 a)) ∧ W.grownBy (W.setCell ⟨g, i, none⟩ (.int .i64 a)) (some g) := by
  subst hn
  have h1 := World.ownsRow.stored h i (.int .i64 a)
  refine ⟨?_, h1.2⟩
  unfold Ints
  rw [List.length_set, List.map_set]
  exact h1.1
theorem made_one (c : Value) (n : Nat) : (madeCells #[c] n).toList = List.replicate n c := by
  apply List.ext_getElem?
  intro j
  by_cases hj : j < n
  · simp [madeCells, hj, Nat.mod_one]
  · simp [madeCells, hj]

/-- A list of numbers, as it came in. -/
def InInts (v : Value) (xs : List Int) (W : World) : Prop :=
  (∃ a c, v = .slice a 0 c ∧ xs = []) ∨ ∃ b off c, v = .slice (some ⟨b, off, none⟩) xs.length c ∧ b < W.heap.size ∧ xs.length ≤ maxLen ∧ ISeg b off xs W
theorem InInts.below {v : Value} {xs : List Int} {W W' : World} {C : Nat} (h : InInts v xs W) (hb : Below C W W') (hC : W.heap.size ≤ C) : InInts v xs W' := by
  rcases h with h | ⟨b, off, c, e, hl, hm, hs⟩
  · exact .inl h
  · exact .inr ⟨b, off, c, e, by have := hb.size; omega, hm, hs.kept (hb.block b (by omega))⟩
theorem InInts.len {v : Value} {xs : List Int} {W : World} (h : InInts v xs W) : ∃ a c, v = .slice a xs.length c ∧ xs.length ≤ maxLen := by
  rcases h with ⟨a, c, rfl, rfl⟩ | ⟨b, off, c, rfl, _, hm, _⟩
  · exact ⟨_, _, rfl, Nat.zero_le _⟩
  · exact ⟨_, _, rfl, hm⟩

end Go.Proofs.YtapmgbnhobpahaaGreatDoor
/- When a server is right; versOk and seatsOk of the program. -/
namespace Go.Proofs.YtapmgbnhobpahaaGreatDoor
open Go.RowKit

def vAt (xs : List Int) (i : Nat) : Int := xs.getD i 0
theorem vAt_get (xs : List Int) (i : Nat) (h : i < xs.length) : vAt xs i = xs[i] := by simp [vAt, h]
def verAt (xs : List Int) (i : Nat) : Bool := decide (1 ≤ vAt xs i ∧ vAt xs i ≤ 1000000000)
def versTo (xs : List Int) (m : Nat) : Bool := (List.range m).all (verAt xs)
theorem versTo_succ (xs : List Int) (m : Nat) : versTo xs (m + 1) = (versTo xs m && verAt xs m) := by simp [versTo, List.range_succ]
theorem versTo_false {xs : List Int} {m n : Nat} (h : verAt xs m = false) (hn : m < n) : versTo xs n = false := by
  simp only [versTo, List.all_eq_false]
  exact ⟨m, List.mem_range.2 hn, by simp [h]⟩
def versB (xs : List Int) : Bool := decide (xs.length = 15) && versTo xs xs.length

/-- Has one of the first m seats the leaf l? -/
def takenB (ss : List (Int × Int)) (m : Nat) (l : Int) : Bool := (List.range m).any fun k => decide ((kAt ss k).2 = l)
theorem takenB_succ (ss : List (Int × Int)) (m : Nat) (l : Int) : takenB ss (m + 1) l = (takenB ss m l || decide ((kAt ss m).2 = l)) := by simp [takenB, List.range_succ]
theorem takenB_true {ss : List (Int × Int)} {k m : Nat} {l : Int} (h : (kAt ss k).2 = l) (hk : k < m) : takenB ss m l = true := by
  simp only [takenB, List.any_eq_true]
  exact ⟨k, List.mem_range.2 hk, by simp [h]⟩
def seatAt (ss : List (Int × Int)) (i : Nat) : Bool :=
  decide (1 ≤ (kAt ss i).1 ∧ (kAt ss i).1 ≤ 20) && (decide (8 ≤ (kAt ss i).2 ∧ (kAt ss i).2 ≤ 15) && ((decide (i = 0) || decide ((kAt ss (i - 1)).1 < (kAt ss i).1)) && !takenB ss i (kAt ss i).2))
def seatsTo (ss : List (Int × Int)) (m : Nat) : Bool := (List.range m).all (seatAt ss)
theorem seatsTo_succ (ss : List (Int × Int)) (m : Nat) : seatsTo ss (m + 1) = (seatsTo ss m && seatAt ss m) := by simp [seatsTo, List.range_succ]
theorem seatsTo_false {ss : List (Int × Int)} {m n : Nat} (h : seatAt ss m = false) (hn : m < n) : seatsTo ss n = false := by
  simp only [seatsTo, List.all_eq_false]
  exact ⟨m, List.mem_range.2 hn, by simp [h]⟩
def seatsB (ss : List (Int × Int)) : Bool := decide (ss.length ≤ 8) && seatsTo ss ss.length
def serverB (ep : Int) (vs : List Int) (ss : List (Int × Int)) : Bool := decide (0 ≤ ep ∧ ep ≤ 1000000000) && (versB vs && seatsB ss)

end Go.Proofs.YtapmgbnhobpahaaGreatDoor
/- seatsOk of the program: at most eight seats by rising member, with unlike leaves. -/
namespace Go.Proofs.YtapmgbnhobpahaaGreatDoor
open Go.RowKit

/-- The array of taken leaves when m seats have been looked at. -/
def Taken (T : Nat) (ss : List (Int × Int)) (m : Nat) (W : World) : Prop := ∀ l : Nat, l < 16 → W.cell? ⟨T, l, none⟩ = some (.bool (takenB ss m (l : Int))) ∧ W.frozen? ⟨T, l, none⟩ = false
theorem Taken.later {T : Nat} {ss : List (Int × Int)} {m : Nat} {W W' : World} (h : Taken T ss m W) (hb : Below W.heap.size W W') (hT : T < W.heap.size) : Taken T ss m W' := fun l hl =>
  ⟨(hb.cell (p := ⟨T, l, none⟩) hT).trans (h l hl).1, (hb.frozen (p := ⟨T, l, none⟩) hT).trans (h l hl).2⟩
theorem Taken.set {T : Nat} {ss : List (Int × Int)} {m n : Nat} {W : World} (h : Taken T ss m W) (hn : n < 16) (hm : (kAt ss m).2 = (n : Int)) : Taken T ss (m + 1) (W.setCell ⟨T, n, none⟩ (.bool true)) := fun l hl => by
  refine ⟨?_, by rw [World.frozen?_setCell]; exact (h l hl).2⟩
  rw [takenB_succ, hm]
  by_cases e : l = n
  · subst e
    exact (World.cell?_setCell_same _ _ _ (h l hl).1).trans (by simp)
  · refine (World.cell?_setCell_other _ _ _ _ (fun e' => e (by injection e' with _ h2; exact h2.symm))).trans ((h l hl).1.trans ?_)
    have : decide ((n : Int) = (l : Int)) = false := decide_eq_false (by omega)
    rw [this, Bool.or_false]
theorem below_drewN2 {n : Nat} {w W : World} (h : Below n w W) (k : Nat) : Below n w (W.drewN k) := ⟨h.os, h.tape, h.output, h.size, h.block⟩

end Go.Proofs.YtapmgbnhobpahaaGreatDoor
