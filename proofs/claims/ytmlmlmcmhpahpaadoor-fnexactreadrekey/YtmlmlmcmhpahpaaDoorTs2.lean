
/- Rekeys off their texts: what the program reads, what the model reads, and that both are the same. -/
import Derived.Test.YtmlmlmcmhpahpaaDoorTs1
namespace Go.Proofs.YtmlmlmcmhpahpaaDoor
open Go.RowKit Go.Shelf
namespace Tx

theorem stops_cons {x : UInt8} {r : List UInt8} (h : isD x = false) : Stops (x :: r) := fun y r' e => by
  injection e with e1 e2
  rw [← e1]; exact h
theorem pNeed_pre (q r : List UInt8) : pNeed q (q ++ r) = some r := by
  unfold pNeed
  rw [if_pos (hasPre q r)]
  simp
theorem pNeed_is {q l r : List UInt8} (h : pNeed q l = some r) : l = q ++ r := by
  unfold pNeed at h
  by_cases hk : Lib.hasPrefix l q = true
  · rw [if_pos hk] at h
    injection h with h
    rw [← h]
    exact hasPre_is hk
  · rw [if_neg hk] at h; cases h
theorem stops_one {x : UInt8} {r : List UInt8} (h : isD x = false) : Stops ([x] ++ r) := stops_cons h
theorem pKey_text {a b : Nat} (ha : a < 10000000000) (hb : b < 10000000000) {r : List UInt8} (hr : Stops r) : pKey (keyT a b ++ r) = some (((a : Int), (b : Int)), r) := by
  have e : keyT a b ++ r = Lib.decDigits a ++ ([46] ++ (Lib.decDigits b ++ r)) := by simp [keyT]
  rw [e, pKey, pNum_dec a ha (stops_one (by decide))]
  simp only [Option.bind_some]
  rw [pNeed_pre]
  simp [pNum_dec b hb hr]
theorem pKey_is {l r : List UInt8} {k : Int × Int} (h : pKey l = some (k, r)) : ∃ a b : Nat, k = ((a : Int), (b : Int)) ∧ l = keyT a b ++ r := by
  unfold pKey at h
  cases h1 : pNum l with
  | none => simp [h1] at h
  | some x =>
    cases h2 : pNeed [46] x.2 with
    | none => simp [h1, h2] at h
    | some r2 =>
      cases h3 : pNum r2 with
      | none => simp [h1, h2, h3] at h
      | some y =>
        simp [h1, h2, h3] at h
        obtain ⟨a, ha, _, hl, _⟩ := pNum_is (m := x.1) (r := x.2) h1
        obtain ⟨b, hb, _, hl2, _⟩ := pNum_is (m := y.1) (r := y.2) h3
        refine ⟨a, b, by rw [← h.1, ha, hb], ?_⟩
        rw [hl, pNeed_is h2, hl2, h.2]
        simp [keyT]
theorem pWrap_text {x : W4} (h : okW x = true) {r : List UInt8} (hr : Stops r) : pWrap (wrapT x ++ r) = some (x, r) := by
  have := okW_nat h
  obtain ⟨a, b, c, d⟩ := x
  simp only at this
  obtain ⟨a, rfl⟩ : ∃ n : Nat, a = (n : Int) := ⟨a.toNat, by omega⟩
  obtain ⟨b, rfl⟩ : ∃ n : Nat, b = (n : Int) := ⟨b.toNat, by omega⟩
  obtain ⟨c, rfl⟩ : ∃ n : Nat, c = (n : Int) := ⟨c.toNat, by omega⟩
  obtain ⟨d, rfl⟩ : ∃ n : Nat, d = (n : Int) := ⟨d.toNat, by omega⟩
  have e : wrapT ((a : Int), (b : Int), (c : Int), (d : Int)) ++ r = keyT a b ++ ([62] ++ (keyT c d ++ r)) := by simp [wrapT]
  rw [e, pWrap, pKey_text (by omega) (by omega) (stops_one (by decide))]
  simp only [Option.bind_some]
  rw [pNeed_pre]
  simp [pKey_text (a := c) (b := d) (by omega) (by omega) hr]
theorem pWrap_is {l r : List UInt8} {x : W4} (h : pWrap l = some (x, r)) : l = wrapT x ++ r := by
  unfold pWrap at h
  cases h1 : pKey l with
  | none => simp [h1] at h
  | some k =>
    cases h2 : pNeed [62] k.2 with
    | none => simp [h1, h2] at h
    | some r2 =>
      cases h3 : pKey r2 with
      | none => simp [h1, h2, h3] at h
      | some y =>
        simp [h1, h2, h3] at h
        obtain ⟨a, b, ha, hl⟩ := pKey_is (k := k.1) (r := k.2) h1
        obtain ⟨c, d, hc, hl2⟩ := pKey_is (k := y.1) (r := y.2) h3
        rw [hl, pNeed_is h2, hl2, ← h.1, ← h.2, ha, hc]
        simp [wrapT]
theorem rekW_cons (x : W4) (ws : List W4) : rekW (x :: ws) = 32 :: (wrapT x ++ rekW ws) := by simp [rekW]
theorem stops_rekW : ∀ ws : List W4, Stops (rekW ws)
  | [] => by simpa [rekW] using stops_nil
  | x :: ws => by rw [rekW_cons]; exact stops_cons (by decide)
theorem pWs_text : ∀ ws : List W4, (∀ x ∈ ws, okW x = true) → pWs (rekW ws) = some (ws, [])
  | [], _ => rfl
  | x :: ws, h => by
    have ih := pWs_text ws (fun y hy => h y (List.mem_cons_of_mem _ hy))
    rw [rekW_cons]
    rw [pWs_yes (x := x) (l2 := rekW ws) (by simp [Lib.hasPrefix]) (by simpa using pWrap_text (h x (by simp)) (stops_rekW ws)), ih]
    rfl
theorem pWraps_is : ∀ (f : Nat) (l r : List UInt8) (ws : List W4), pWraps f l = some (ws, r) → l = rekW ws ++ r
  | 0, l, r, ws, h => by
    simp [pWraps] at h
    obtain ⟨rfl, rfl⟩ := h
    simp [rekW]
  | f + 1, l, r, ws, h => by
    by_cases hp : Lib.hasPrefix l [32] = true
    · simp only [pWraps, hp, if_true] at h
      cases hw : pWrap (l.drop 1) with
      | none => rw [hw] at h; cases h
      | some x =>
        rw [hw, Option.bind_some] at h
        cases hr : pWraps f x.2 with
        | none => rw [hr] at h; cases h
        | some y =>
          rw [hr] at h
          simp at h
          have h1 := pWraps_is f x.2 y.2 y.1 hr
          have h2 := pWrap_is (x := x.1) (r := x.2) hw
          rw [hasPre_is hp, show l.drop [(32 : UInt8)].length = l.drop 1 from rfl, h2, h1, ← h.1, ← h.2, rekW_cons]
          simp
    · simp [pWraps, hp] at h
      obtain ⟨rfl, rfl⟩ := h
      simp [rekW]
theorem pRekey_text {ep : Int} {ws : List W4} (h : rkB ep ws = true) : pRekey (rekT ep ws) = some ((ep, ws), []) := by
  obtain ⟨h1, h2, h3, h4⟩ := rkB_nat h
  obtain ⟨n, rfl⟩ : ∃ n : Nat, ep = (n : Int) := ⟨ep.toNat, by omega⟩
  have e : rekT (n : Int) ws = sEpoch ++ (Lib.decDigits n ++ rekW ws) := by simp [rekT]
  rw [e, pRekey, pNeed_pre]
  simp only [Option.bind_some]
  rw [pNum_dec n (by omega) (stops_rekW ws)]
  simp only [Option.bind_some]
  rw [pWs_text ws h4]
  simp [h]
theorem pRekey_is {l : List UInt8} {ep : Int} {ws : List W4} (h : pRekey l = some ((ep, ws), [])) : rkB ep ws = true ∧ l = rekT ep ws := by
  unfold pRekey at h
  cases h1 : pNeed sEpoch l with
  | none => simp [h1] at h
  | some r1 =>
    cases h2 : pNum r1 with
    | none => simp [h1, h2] at h
    | some x =>
      cases h3 : pWs x.2 with
      | none => simp [h1, h2, h3] at h
      | some y =>
        simp only [h1, h2, h3, Option.bind_some] at h
        by_cases hr : rkB x.1 y.1 = true
        · rw [if_pos hr] at h
          simp at h
          obtain ⟨⟨e1, e2⟩, e3⟩ := h
          subst e1 e2
          refine ⟨hr, ?_⟩
          obtain ⟨n, hn, _, hl, _⟩ := pNum_is (m := x.1) (r := x.2) h2
          rw [pNeed_is h1, hl, pWraps_is _ _ _ _ h3, e3, rekT, hn]
          simp
        · rw [if_neg hr] at h; cases h
theorem wholeRk_is {l : List UInt8} {ep : Int} {ws : List W4} (h : wholeRk l = (ep, ws, true)) : rkB ep ws = true ∧ l = rekT ep ws := by
  unfold wholeRk at h
  split at h
  · rename_i x hx
    obtain ⟨a, b⟩ := x
    simp at h
    obtain ⟨rfl, rfl⟩ := h
    exact pRekey_is hx
  · simp at h
theorem wholeRk_not {l : List UInt8} (h : (wholeRk l).2.2 = false) : wholeRk l = (0, [], false) := by
  unfold wholeRk at h ⊢
  split at h
  · simp at h
  · rfl

/-- A key of the model: its two numbers, and whether both are such. -/
def sKey (l : List UInt8) : (Int × Int) × Bool := (((pInt (cut 46 l).1).1, (pInt (cut 46 l).2.1).1), (pInt (cut 46 l).1).2 && (pInt (cut 46 l).2.1).2)
abbrev sOne (l : List UInt8) : W4 × Bool := (((sKey (cut 62 l).1).1.1, (sKey (cut 62 l).1).1.2, (sKey (cut 62 l).2.1).1.1, (sKey (cut 62 l).2.1).1.2), (sKey (cut 62 l).1).2 && (sKey (cut 62 l).2.1).2)
/-- The wraps that the model reads still. -/
def sWs : Nat → Bool → List UInt8 → Option (List W4)
  | 0, _, _ => some []
  | f + 1, more, l => if more = true then (if (sOne (cut 32 l).1).2 = true then (sWs f (cut 32 l).2.2 (cut 32 l).2.1).map ((sOne (cut 32 l).1).1 :: ·) else none) else some []
abbrev wEpoch : List UInt8 := [101, 112, 111, 99, 104]
def specRk (l : List UInt8) : Int × List W4 × Bool :=
  match sWs 401 (cut 32 (cut 32 l).2.1).2.2 (cut 32 (cut 32 l).2.1).2.1 with
  | none => (0, [], false)
  | some ws => if (cut 32 l).1 = wEpoch ∧ (cut 32 l).2.2 = true ∧ rekText (pInt (cut 32 (cut 32 l).2.1).1).1 ws = l then ((pInt (cut 32 (cut 32 l).2.1).1).1, ws, true) else (0, [], false)

theorem dec_no (c : UInt8) (hc : isD c = false) (n : Nat) : c ∉ Lib.decDigits n := fun hm => by
  have := dec_isD n n (lt_pow n) c hm
  rw [hc] at this; cases this
theorem keyT_no (c : UInt8) (hc : isD c = false) (h46 : c ≠ 46) (a b : Nat) : c ∉ keyT a b := by
  simp only [keyT, List.mem_append, List.mem_cons, not_or]
  first
  | exact ⟨dec_no c hc a, h46, dec_no c hc b⟩
  | exact ⟨⟨dec_no c hc a, h46⟩, dec_no c hc b⟩
theorem sKey_text {a b : Nat} (ha : a < 10000000000) (hb : b < 10000000000) : sKey (keyT a b) = (((a : Int), (b : Int)), true) := by
  have e : cut 46 (keyT a b) = (Lib.decDigits a, Lib.decDigits b, true) := by
    have : keyT a b = Lib.decDigits a ++ 46 :: Lib.decDigits b := by simp [keyT]
    rw [this]
    exact cut_app 46 _ _ (dec_no 46 (by decide) a)
  simp [sKey, e, pInt_dec a ha, pInt_dec b hb]
theorem wrapT_is {x : W4} (h : okW x = true) : ∃ a b c d : Nat, x = ((a : Int), (b : Int), (c : Int), (d : Int)) ∧ a < 10000000000 ∧ b < 10000000000 ∧ c < 10000000000 ∧ d < 10000000000 ∧ wrapT x = keyT a b ++ 62 :: keyT c d := by
  have := okW_nat h
  obtain ⟨a, b, c, d⟩ := x
  simp only at this
  obtain ⟨a, rfl⟩ : ∃ n : Nat, a = (n : Int) := ⟨a.toNat, by omega⟩
  obtain ⟨b, rfl⟩ : ∃ n : Nat, b = (n : Int) := ⟨b.toNat, by omega⟩
  obtain ⟨c, rfl⟩ : ∃ n : Nat, c = (n : Int) := ⟨c.toNat, by omega⟩
  obtain ⟨d, rfl⟩ : ∃ n : Nat, d = (n : Int) := ⟨d.toNat, by omega⟩
  exact ⟨a, b, c, d, rfl, by omega, by omega, by omega, by omega, by simp [wrapT]⟩
theorem sOne_text {x : W4} (h : okW x = true) : sOne (wrapT x) = (x, true) := by
  obtain ⟨a, b, c, d, rfl, ha, hb, hc, hd, e⟩ := wrapT_is h
  rw [e]
  have e2 : cut 62 (keyT a b ++ 62 :: keyT c d) = (keyT a b, keyT c d, true) := cut_app 62 _ _ (keyT_no 62 (by decide) (by decide) a b)
  simp [sOne, e2, sKey_text ha hb, sKey_text hc hd]
theorem wrapT_no {x : W4} (h : okW x = true) : (32 : UInt8) ∉ wrapT x := by
  obtain ⟨a, b, c, d, rfl, ha, hb, hc, hd, e⟩ := wrapT_is h
  rw [e]
  simp only [List.mem_append, List.mem_cons, not_or]
  exact ⟨keyT_no 32 (by decide) (by decide) a b, by decide, keyT_no 32 (by decide) (by decide) c d⟩
/-- What stands behind the first blank. -/
def restW : List W4 → List UInt8
  | [] => []
  | x :: ws => wrapT x ++ rekW ws
def someW : List W4 → Bool
  | [] => false
  | _ :: _ => true
theorem cut_none (c : UInt8) : ∀ (a : List UInt8), c ∉ a → cut c a = (a, [], false)
  | [], _ => by simp [cut]
  | x :: a, h => by
    have hx : x ≠ c := fun e => h (by simp [e])
    have := cut_none c a (fun m => h (List.mem_cons_of_mem _ m))
    simp [cut, hx, this]
theorem cut_rekW {a : List UInt8} (h : (32 : UInt8) ∉ a) : ∀ ws : List W4, cut 32 (a ++ rekW ws) = (a, restW ws, someW ws)
  | [] => by simpa [rekW, restW, someW] using cut_none 32 a h
  | x :: ws => by rw [rekW_cons]; exact cut_app 32 _ _ h
theorem sWs_text : ∀ (ws : List W4) (f : Nat), ws.length ≤ f → (∀ x ∈ ws, okW x = true) → sWs f (someW ws) (restW ws) = some ws
  | [], 0, _, _ => rfl
  | [], f + 1, _, _ => by simp [sWs, someW]
  | x :: ws, 0, h, _ => by simp at h
  | x :: ws, f + 1, h, hk => by
    have ih := sWs_text ws f (by simpa using h) (fun y hy => hk y (List.mem_cons_of_mem _ hy))
    have e := cut_rekW (wrapT_no (hk x (by simp))) ws
    have e2 := sOne_text (hk x (by simp))
    show (if true = true then (if (sOne (cut 32 (wrapT x ++ rekW ws)).1).2 = true then (sWs f (cut 32 (wrapT x ++ rekW ws)).2.2 (cut 32 (wrapT x ++ rekW ws)).2.1).map ((sOne (cut 32 (wrapT x ++ rekW ws)).1).1 :: ·) else none) else some []) = _
    rw [e]
    show (if true = true then (if (sOne (wrapT x)).2 = true then (sWs f (someW ws) (restW ws)).map ((sOne (wrapT x)).1 :: ·) else none) else some []) = _
    rw [e2, ih]
    rfl
theorem rekT_ne (ep : Int) (ws : List W4) : rekT ep ws ≠ [] := by simp [rekT]
theorem specRk_text {ep : Int} {ws : List W4} (h : rkB ep ws = true) : specRk (rekT ep ws) = (ep, ws, true) := by
  obtain ⟨h1, h2, h3, h4⟩ := rkB_nat h
  obtain ⟨n, rfl⟩ : ∃ n : Nat, ep = (n : Int) := ⟨ep.toNat, by omega⟩
  have e : cut 32 (rekT (n : Int) ws) = (wEpoch, Lib.decDigits n ++ rekW ws, true) := by
    have : rekT (n : Int) ws = wEpoch ++ 32 :: (Lib.decDigits n ++ rekW ws) := by simp [rekT]
    rw [this]
    exact cut_app 32 _ _ (by decide)
  have e2 := cut_rekW (dec_no 32 (by decide) n) ws
  have e3 : rekText (n : Int) ws = rekT (n : Int) ws := by simp [rekText, h]
  unfold specRk
  simp only [e, e2, sWs_text ws 401 (by omega) h4, pInt_dec n (by omega), e3]
  simp
theorem specRk_is {l : List UInt8} {ep : Int} {ws : List W4} (h : specRk l = (ep, ws, true)) : rkB ep ws = true ∧ l = rekT ep ws := by
  unfold specRk at h
  split at h
  · simp at h
  · rename_i us hus
    by_cases hc : (cut 32 l).1 = wEpoch ∧ (cut 32 l).2.2 = true ∧ rekText (pInt (cut 32 (cut 32 l).2.1).1).1 us = l
    · rw [if_pos hc] at h
      simp at h
      obtain ⟨h1, h2⟩ := h
      have h3 := hc.2.2
      rw [h1, h2] at h3
      by_cases hf : rkB ep ws = true
      · refine ⟨hf, ?_⟩
        rw [rekText, if_pos hf] at h3
        exact h3.symm
      · rw [rekText, if_neg hf] at h3
        have h4 := hc.2.1
        rw [← h3] at h4
        simp [cut] at h4
    · rw [if_neg hc] at h; simp at h
theorem specRk_not {l : List UInt8} (h : (specRk l).2.2 = false) : specRk l = (0, [], false) := by
  unfold specRk at h ⊢
  split at h
  · rfl
  · rename_i us hus
    by_cases hc : (cut 32 l).1 = wEpoch ∧ (cut 32 l).2.2 = true ∧ rekText (pInt (cut 32 (cut 32 l).2.1).1).1 us = l
    · rw [if_pos hc] at h; simp at h
    · rw [if_neg hc]
/-- Both read the same rekeys. -/
theorem bothRk (l : List UInt8) : wholeRk l = specRk l := by
  obtain ⟨k, m, b, hw⟩ : ∃ k m b, wholeRk l = (k, m, b) := ⟨_, _, _, rfl⟩
  obtain ⟨k', m', b', hs⟩ : ∃ k m b, specRk l = (k, m, b) := ⟨_, _, _, rfl⟩
  cases b with
  | true =>
    obtain ⟨hf, rfl⟩ := wholeRk_is hw
    rw [hw, specRk_text hf]
  | false =>
    cases b' with
    | true =>
      obtain ⟨hf, rfl⟩ := specRk_is hs
      have : wholeRk (rekT k' m') = (k', m', true) := wholeRk_some (pRekey_text hf)
      rw [this] at hw
      simp at hw
    | false => rw [wholeRk_not (by rw [hw]), specRk_not (by rw [hs])]
/-- What is read is no longer than 400. -/
theorem wholeRk_len (l : List UInt8) : (wholeRk l).2.1.length ≤ 400 := by
  obtain ⟨k, m, b, hw⟩ : ∃ k m b, wholeRk l = (k, m, b) := ⟨_, _, _, rfl⟩
  cases b with
  | true =>
    have := (rkB_nat (wholeRk_is hw).1).2.2.1
    rw [hw]; exact this
  | false => rw [wholeRk_not (by rw [hw])]; simp
end Tx
end Go.Proofs.YtmlmlmcmhpahpaaDoor
