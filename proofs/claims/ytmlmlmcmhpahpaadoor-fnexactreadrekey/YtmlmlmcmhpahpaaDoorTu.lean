
/- ReadOp of the program; both ReadOps answer the same; the exact law of ReadOp. -/
import Derived.Test.YtmlmlmcmhpahpaaDoorTr4
import Derived.Test.YtmlmlmcmhpahpaaDoorTq
namespace Go.Proofs.YtmlmlmcmhpahpaaDoor
open Go.RowKit Go.Shelf
namespace Tx

/-- The package's error errNoText holds an error. -/
def HasNo (w : World) : Prop := ∃ t v, w.cell? ⟨1, 0, none⟩ = some (.iface t v)
theorem HasNo.since {w w' : World} (h : HasNo w) (hb : Below w.heap.size w w') : HasNo w' := by
  obtain ⟨t, v, h⟩ := h
  exact ⟨t, v, (hb.cell (p := ⟨1, 0, none⟩) (cell_lt h)).trans h⟩

set_option maxRecDepth 100000 in
theorem readOp_any (l : List UInt8) (w : World) (hN : HasNo w) (hF : HasForm w) (hl : l.length ≤ 1048576) :
    Calls Tryd.prog 11 #[st l] w fun e w' => e = .returned (.tuple #[kv (wholeOp l).1 (wholeOp l).2.1, .bool (wholeOp l).2.2]) ∧ Below w.heap.size w w' := by
  have hmf : ∀ (fn : Fn) (first cap : Array Value) (w : World), (Instr.makeFunc fn first cap).run Tryd.prog w = .ok (.func fn first cap) w := fun _ _ _ _ => rfl
  have B0 := hidT ((oneB w (opb 0 0)).alloc (by simp) (.cells #[.string ⟨l.toArray⟩] 54))
  have P0 := hidT (show ((w.alloc (opb 0 0)).alloc (.cells #[.string ⟨l.toArray⟩] 54)).heap[w.heap.size]? = some (opb 0 0) from (heap_old _ _ (by simp)).trans (heap_new _ _))
  have R0 : Hid (Rdr (w.heap.size + 1) l ((w.alloc (opb 0 0)).alloc (.cells #[.string ⟨l.toArray⟩] 54))) := by
    have := heap_new (w.alloc (opb 0 0)) (.cells #[.string ⟨l.toArray⟩] 54)
    rw [World.size_alloc] at this
    exact this
  obtain ⟨t, v, hc⟩ := hN.since B0.out
  obtain ⟨t2, v2, hc2⟩ := hN
  obtain ⟨t3, v3, hc3⟩ := hF
  have l2 := cell_lt hc2
  have l3 := cell_lt hc3
  simp only at l2 l3
  have HN : Hid (NoText (w.heap.size + 1) (.iface t v) ((w.alloc (opb 0 0)).alloc (.cells #[.string ⟨l.toArray⟩] 54))) := ⟨hc, ⟨_, _, rfl⟩, by omega⟩
  have HF : Hid (FormX (w.heap.size + 1) ((w.alloc (opb 0 0)).alloc (.cells #[.string ⟨l.toArray⟩] 54))) := ⟨HasForm.since ⟨t3, v3, hc3⟩ B0.out, by omega⟩
  clear hc hc2 hc3
  go_enter Tryd.func11, Tryd.ntmps11
  go_wp2_with fail
  refine (wholeOp_any (w.heap.size + 1) (.iface t v) l _ R0.out HN.out HF.out hl).mono ?_
  rintro e w1 ⟨rfl, g1⟩
  have B1 := hidT (B0.out.grown g1 B0.out.size (fun j e => by cases e; omega))
  have P1 := hidT ((g1.block _ (cell_lt (blk2 P0.out).1) (by simp)).trans P0.out)
  clear g1
  obtain ⟨d0, d1, z0, z1⟩ := blk2 P1.out
  obtain ⟨k, m, ok, HX⟩ : ∃ k m ok, Hid (wholeOp l = (k, m, ok)) := ⟨_, _, _, rfl⟩
  rw [HX.out]
  have HT := hidT (set2 (.int .i64 k) (.int .i64 m) P1.out)
  have B5 := hidT (B1.out.grown HT.out.2 B1.out.size (fun j e => by cases e; exact Nat.le_refl _))
  have P5 := hidT HT.out.1
  clear HT
  go_wp2
  generalize ((w1.setCell ⟨w.heap.size, 0, none⟩ (.int .i64 k)).setCell ⟨w.heap.size, 1, none⟩ (.int .i64 m)) = w5 at B5 P5 ⊢
  obtain ⟨e0, e1, _, _⟩ := blk2 P5.out
  exact bodyPost_ret (v := .tuple #[kv k m, .bool ok]) (by simp [results, Tryd.results11, go_sem, e0, e1]) rfl ⟨by rw [HX.out], B5.out⟩

theorem hasPre (p r : List UInt8) : Lib.hasPrefix (p ++ r) p = true := by simp [Lib.hasPrefix]
theorem hasPre_is {l p : List UInt8} (h : Lib.hasPrefix l p = true) : l = p ++ l.drop p.length := by
  simp [Lib.hasPrefix] at h
  obtain ⟨r, rfl⟩ := h
  simp
theorem stops_nil : Stops [] := fun x r h => by cases h
theorem pMem_dec {k : Int} {n : Nat} (h : formB k (n : Int) = true) (hn : n < 10000000000) : pMem k (Lib.decDigits n) = some ((k, (n : Int)), []) := by
  have := pNum_dec n hn stops_nil
  rw [List.append_nil] at this
  simp [pMem, this, h]
/-- A right op is read off its text. -/
theorem pOp_text {k m : Int} (h : formB k m = true) : pOp (opT k m) = some ((k, m), []) := by
  have hc : (k = 1 ∨ k = 2) ∧ 1 ≤ m ∧ m ≤ 20 ∨ k = 3 ∧ m = 0 := by
    unfold formB at h
    by_cases h1 : k = 1 ∨ k = 2
    · rw [if_pos h1] at h; simp at h; exact .inl ⟨h1, h⟩
    · rw [if_neg h1] at h; simp at h; exact .inr h
  rcases hc with ⟨rfl | rfl, hm⟩ | ⟨rfl, rfl⟩
  · obtain ⟨n, rfl⟩ : ∃ n : Nat, m = (n : Int) := ⟨m.toNat, by omega⟩
    have e : opT 1 (n : Int) = sJoin ++ Lib.decDigits n := by simp [opT]
    rw [e, pOp, if_pos (hasPre _ _)]
    exact pMem_dec h (by omega)
  · obtain ⟨n, rfl⟩ : ∃ n : Nat, m = (n : Int) := ⟨m.toNat, by omega⟩
    have e : opT 2 (n : Int) = sLeave ++ Lib.decDigits n := by simp [opT]
    rw [e, pOp, if_neg (by simp [Lib.hasPrefix]), if_pos (hasPre _ _)]
    exact pMem_dec h (by omega)
  · decide
theorem pMem_is {k : Int} {l : List UInt8} {x : Int × Int} {r : List UInt8} (h : pMem k l = some (x, r)) : ∃ n : Nat, x = (k, (n : Int)) ∧ formB k (n : Int) = true ∧ l = Lib.decDigits n ++ r := by
  unfold pMem at h
  cases hn : pNum l with
  | none => simp [hn] at h
  | some y =>
    obtain ⟨m, r'⟩ := y
    obtain ⟨n, rfl, _, hl, _⟩ := pNum_is hn
    by_cases hf : formB k (n : Int) = true
    · simp [hn, hf] at h
      exact ⟨n, h.1.symm, hf, by rw [hl, h.2]⟩
    · simp [hn, hf] at h
/-- What an op was read off is its text. -/
theorem pOp_is {l : List UInt8} {k m : Int} (h : pOp l = some ((k, m), [])) : formB k m = true ∧ l = opT k m := by
  unfold pOp at h
  by_cases h1 : Lib.hasPrefix l sJoin = true
  · rw [if_pos h1] at h
    obtain ⟨n, e, hf, hl⟩ := pMem_is h
    injection e with e1 e2
    subst e1 e2
    refine ⟨hf, ?_⟩
    rw [hasPre_is h1, show l.drop sJoin.length = l.drop 5 from rfl, hl]
    simp [opT]
  · rw [if_neg h1] at h
    by_cases h2 : Lib.hasPrefix l sLeave = true
    · rw [if_pos h2] at h
      obtain ⟨n, e, hf, hl⟩ := pMem_is h
      injection e with e1 e2
      subst e1 e2
      refine ⟨hf, ?_⟩
      rw [hasPre_is h2, show l.drop sLeave.length = l.drop 6 from rfl, hl]
      simp [opT]
    · rw [if_neg h2] at h
      unfold pNeed at h
      by_cases h3 : Lib.hasPrefix l sRefresh = true
      · rw [if_pos h3] at h
        simp at h
        obtain ⟨⟨rfl, rfl⟩, h4⟩ := h
        refine ⟨by decide, ?_⟩
        rw [hasPre_is h3, show l.drop sRefresh.length = [] from List.drop_eq_nil_of_le h4]
        simp [opT]
      · rw [if_neg h3] at h
        simp at h
theorem cut_app (c : UInt8) : ∀ (a r : List UInt8), c ∉ a → cut c (a ++ c :: r) = (a, r, true)
  | [], r, _ => by simp [cut]
  | x :: a, r, h => by
    have hx : x ≠ c := fun e => h (by simp [e])
    have := cut_app c a r (fun m => h (List.mem_cons_of_mem _ m))
    simp [cut, hx, this]
theorem pInt_dec (n : Nat) (h : n < 10000000000) : pInt (Lib.decDigits n) = ((n : Int), true) := by
  unfold pInt
  rw [if_pos ⟨numOk_dec n h, List.all_eq_true.2 (dec_isD n n (lt_pow n))⟩, numV_dec n n (lt_pow n)]
theorem opT_ne (k m : Int) : opT k m ≠ [] := by
  unfold opT
  by_cases h1 : k = 1
  · simp [h1]
  · by_cases h2 : k = 2 <;> simp [h1, h2]
theorem specRead_text {k m : Int} (h : formB k m = true) : specRead (opT k m) = (k, m, true) := by
  have hc : (k = 1 ∨ k = 2) ∧ 1 ≤ m ∧ m ≤ 20 ∨ k = 3 ∧ m = 0 := by
    unfold formB at h
    by_cases h1 : k = 1 ∨ k = 2
    · rw [if_pos h1] at h; simp at h; exact .inl ⟨h1, h⟩
    · rw [if_neg h1] at h; simp at h; exact .inr h
  have ht : opText k m = opT k m := by simp [opText, h]
  rcases hc with ⟨rfl | rfl, hm⟩ | ⟨rfl, rfl⟩
  · obtain ⟨n, rfl⟩ : ∃ n : Nat, m = (n : Int) := ⟨m.toNat, by omega⟩
    have e : cut 32 (opT 1 (n : Int)) = ([106, 111, 105, 110], Lib.decDigits n, true) := by
      have : opT 1 (n : Int) = [106, 111, 105, 110] ++ 32 :: Lib.decDigits n := by simp [opT]
      rw [this]
      exact cut_app 32 _ _ (by decide)
    unfold specRead
    rw [e]
    simp only [pInt_dec n (by omega), show kindOf [106, 111, 105, 110] = 1 by decide, ht]
    rw [if_neg (by simp [opT_ne])]
  · obtain ⟨n, rfl⟩ : ∃ n : Nat, m = (n : Int) := ⟨m.toNat, by omega⟩
    have e : cut 32 (opT 2 (n : Int)) = ([108, 101, 97, 118, 101], Lib.decDigits n, true) := by
      have : opT 2 (n : Int) = [108, 101, 97, 118, 101] ++ 32 :: Lib.decDigits n := by simp [opT]
      rw [this]
      exact cut_app 32 _ _ (by decide)
    unfold specRead
    rw [e]
    simp only [pInt_dec n (by omega), show kindOf [108, 101, 97, 118, 101] = 2 by decide, ht]
    rw [if_neg (by simp [opT_ne])]
  · decide
theorem specRead_is {l : List UInt8} {k m : Int} (h : specRead l = (k, m, true)) : formB k m = true ∧ l = opT k m := by
  unfold specRead at h
  by_cases hc : l = [] ∨ opText (kindOf (cut 32 l).1) (pInt (cut 32 l).2.1).1 ≠ l
  · rw [if_pos hc] at h; simp at h
  · rw [if_neg hc] at h
    simp at h
    obtain ⟨h1, h2⟩ := h
    rw [h1, h2] at hc
    simp only [not_or, ne_eq, Decidable.not_not] at hc
    by_cases hf : formB k m = true
    · refine ⟨hf, ?_⟩
      have := hc.2
      rw [opText, if_pos hf] at this
      exact this.symm
    · have := hc.2
      rw [opText, if_neg hf] at this
      exact absurd this.symm hc.1
theorem wholeOp_is {l : List UInt8} {k m : Int} (h : wholeOp l = (k, m, true)) : formB k m = true ∧ l = opT k m := by
  unfold wholeOp at h
  split at h
  · rename_i x hx
    obtain ⟨a, b⟩ := x
    simp at h
    obtain ⟨rfl, rfl⟩ := h
    exact pOp_is hx
  · simp at h
theorem specRead_not {l : List UInt8} (h : (specRead l).2.2 = false) : specRead l = (0, 0, false) := by
  unfold specRead at h ⊢
  by_cases hc : l = [] ∨ opText (kindOf (cut 32 l).1) (pInt (cut 32 l).2.1).1 ≠ l
  · rw [if_pos hc]
  · rw [if_neg hc] at h; simp at h
theorem wholeOp_not {l : List UInt8} (h : (wholeOp l).2.2 = false) : wholeOp l = (0, 0, false) := by
  unfold wholeOp at h ⊢
  split at h
  · simp at h
  · rfl
/-- Both read the same ops. -/
theorem bothRead (l : List UInt8) : wholeOp l = specRead l := by
  obtain ⟨k, m, b, hw⟩ : ∃ k m b, wholeOp l = (k, m, b) := ⟨_, _, _, rfl⟩
  obtain ⟨k', m', b', hs⟩ : ∃ k m b, specRead l = (k, m, b) := ⟨_, _, _, rfl⟩
  cases b with
  | true =>
    obtain ⟨hf, rfl⟩ := wholeOp_is hw
    rw [hw, specRead_text hf]
  | false =>
    cases b' with
    | true =>
      obtain ⟨hf, rfl⟩ := specRead_is hs
      have : wholeOp (opT k' m') = (k', m', true) := wholeOp_some (pOp_text hf)
      rw [this] at hw
      simp at hw
    | false => rw [wholeOp_not (by rw [hw]), specRead_not (by rw [hs])]
end Tx
end Go.Proofs.YtmlmlmcmhpahpaaDoor
