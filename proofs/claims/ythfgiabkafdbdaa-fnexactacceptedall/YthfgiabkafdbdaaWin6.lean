
/- The window of bits, told as a list: window of the program; its Accepted. -/
import Derived.Test.YthfgiabkafdbdaaWin5
namespace Go.Proofs.Ythfgiabkafdbdaa.Wn
open Go.RowKit

theorem bit_val {b m : Nat} (hb : b < 4294967296) : (bits .and .u32 ((b : Int) / 2 ^ m) 1 == 1) = b.testBit m := by
  have e : (b : Int) / 2 ^ m = ((b / 2 ^ m : Nat) : Int) := by simp
  have h1 : b / 2 ^ m < 4294967296 := Nat.lt_of_le_of_lt (Nat.div_le_self _ _) hb
  have h2 := u32_and_nat (b / 2 ^ m) (2 ^ 0) h1 (by omega)
  rw [one_pow0] at h2
  rw [e, h2, Nat.pow_zero, div_bit]
  by_cases h : b.testBit m = true
  · rw [if_pos h, h]; rfl
  · rw [if_neg h]; simp [h]
/-- A block that neither an append nor what it appends touches. -/
theorem blkA {W W' : World} {o x : Obj} {R : Nat} {row : Option Nat} (hg : (W.alloc o).grownBy W' row) (h : W.heap[R]? = some x) (hne : row ≠ some R) : W'.heap[R]? = some x := by
  have hl := (Array.getElem?_eq_some_iff.1 h).1
  rw [hg.block R (by simp; omega) (fun e => hne e.symm), Below.heap_alloc _ _ _ hl]
  exact h
theorem ints_row {W : World} {B n : Nat} {v : Value} {ys : List Value} {xs : List Int} (h : W.ownsRow B 2 1 v n ys) (e : ys = xs.map (Value.int .i64)) : ∃ a c, v = .slice a xs.length c ∧ Ints B (.slice a xs.length c) xs W := by
  subst e
  have hN : xs.length = n := by have := h.1; simpa using this
  subst hN
  obtain ⟨a, c, hv, _, _⟩ := Ints.row (show Ints B v xs W from h)
  subst hv
  exact ⟨a, c, rfl, h⟩
theorem winTo_at (top : Int) (b m : Nat) (h : m < 32) : winTo top b (32 - m) = if b.testBit m = true then winTo top b (32 - (m + 1)) ++ [top - (m : Int)] else winTo top b (32 - (m + 1)) := by
  obtain ⟨j, hj⟩ : ∃ j, 32 - m = j + 1 := ⟨31 - m, by omega⟩
  have e1 : 32 - (m + 1) = j := by omega
  have e2 : 31 - j = m := by omega
  rw [hj, e1]
  show (if b.testBit (31 - j) = true then _ else _) = _
  rw [e2]

set_option maxRecDepth 100000 in
set_option maxHeartbeats 2000000 in
theorem windowM_any {w : World} (top : Int) (b : Nat) (hb : b < 4294967296) (ht : 0 ≤ top ∧ top ≤ 1000000000) :
    Calls Try.prog 43 #[bv top b] w fun e w' => ∃ v', e = .returned (wv top v') ∧ Ints w.heap.size v' (winTo top b 32) w' ∧ Below w.heap.size w w' := by
  obtain ⟨i0, hi, hz0, hz1, hz2⟩ := info_parts infoI
  have hB0 : Below w.heap.size w (((w.alloc (bb top b)).alloc (wb 0 (.slice none 0 0))).alloc (wb top (.slice none 0 0))) := (two_below w _ _).alloc (by simp; omega) _
  have t0 : (((w.alloc (bb top b)).alloc (wb 0 (.slice none 0 0))).alloc (wb top (.slice none 0 0))).heap[w.heap.size]? = some (bb top b) := by
    rw [Below.heap_alloc _ _ _ (by simp; omega), Below.heap_alloc _ _ _ (by simp)]
    exact heap_alloc_new _ _
  have t1 : (((w.alloc (bb top b)).alloc (wb 0 (.slice none 0 0))).alloc (wb top (.slice none 0 0))).heap[w.heap.size + 1]? = some (wb 0 (.slice none 0 0)) := by
    rw [Below.heap_alloc _ _ _ (by simp)]
    have := heap_alloc_new (w.alloc (bb top b)) (wb 0 (.slice none 0 0))
    simpa using this
  have t2 : (((w.alloc (bb top b)).alloc (wb 0 (.slice none 0 0))).alloc (wb top (.slice none 0 0))).heap[w.heap.size + 1 + 1]? = some (wb top (.slice none 0 0)) := by
    have := heap_alloc_new ((w.alloc (bb top b)).alloc (wb 0 (.slice none 0 0))) (wb top (.slice none 0 0))
    simpa using this
  have hs0 : (((w.alloc (bb top b)).alloc (wb 0 (.slice none 0 0))).alloc (wb top (.slice none 0 0))).heap.size = w.heap.size + 1 + 1 + 1 := by simp
  go_enter Try.func43, Try.ntmps43
  go_wp2
  generalize ((w.alloc (bb top b)).alloc (wb 0 (.slice none 0 0))).alloc (wb top (.slice none 0 0)) = w0 at hB0 t0 t1 t2 hs0 ⊢
  go_loopw [4] (fun i wr => ∃ k : Nat, ∃ a c, i = .int .i64 ((k : Int) - 1) ∧ k ≤ 32 ∧ wr.heap[w.heap.size]? = some (bb top b) ∧ wr.heap[w.heap.size + 1]? = some (wb 0 (.slice none 0 0)) ∧ wr.heap[w.heap.size + 1 + 1]? = some (wb top (.slice a (winTo top b (32 - k)).length c)) ∧ Hid (Ints (w.heap.size + 1 + 1 + 1) (.slice a (winTo top b (32 - k)).length c) (winTo top b (32 - k)) wr) ∧ Below w.heap.size w wr ∧ w.heap.size + 1 + 1 + 1 ≤ wr.heap.size) (fun i _ => ((intOf i) + 1).toNat)
  case atStart => exact ⟨32, none, 0, rfl, Nat.le_refl _, t0, t1, t2, ⟨by simp [winTo], .inl ⟨rfl, rfl⟩⟩, hB0, by omega⟩
  case round =>
    obtain ⟨k, a, c, rfl, hk, r0, r1, r2, HI, hB, hsz⟩ := hrel
    clear t0 t1 t2 hB0
    obtain ⟨⟨p0, p1⟩, f0, f1⟩ := box2 r0
    obtain ⟨⟨q0, q1⟩, g0, g1⟩ := box2 r2
    cases k with
    | zero =>
      obtain ⟨⟨y0, y1⟩, j0, j1⟩ := box2 r1
      have HF : Hid (((wr.setCell ⟨w.heap.size + 1, 0, none⟩ (.int .i64 top)).setCell ⟨w.heap.size + 1, 1, none⟩ (.slice a (winTo top b 32).length c)).heap[w.heap.size + 1]? = some (wb top (.slice a (winTo top b 32).length c))) := box2_set1 (box2_set0 r1 _) _
      have HB' : Hid (Below w.heap.size w ((wr.setCell ⟨w.heap.size + 1, 0, none⟩ (.int .i64 top)).setCell ⟨w.heap.size + 1, 1, none⟩ (.slice a (winTo top b 32).length c))) := (hB.setCell (by simp) _).setCell (by simp) _
      have hlt := HI.out.lt
      have HK : Hid (Ints w.heap.size (.slice a (winTo top b 32).length c) (winTo top b 32) ((wr.setCell ⟨w.heap.size + 1, 0, none⟩ (.int .i64 top)).setCell ⟨w.heap.size + 1, 1, none⟩ (.slice a (winTo top b 32).length c))) :=
        ((HI.out.mono (by omega)).kept (grown_set _ _ _ _) (fun k e e' => by cases e; have := (hlt _ e').1; omega)).kept (grown_set _ _ _ _) (fun k e e' => by cases e; have := (hlt _ e').1; omega)
      clear r0 r1 r2 hlt HI
      simp only [Nat.sub_zero] at q1
      go_wp2
      have bF := HF.out
      have gB := HB'.out
      have gK := HK.out
      clear HF HB' HK
      generalize (wr.setCell ⟨w.heap.size + 1, 0, none⟩ (.int .i64 top)).setCell ⟨w.heap.size + 1, 1, none⟩ (.slice a (winTo top b 32).length c) = WF at bF gB gK ⊢
      obtain ⟨⟨z0, z1⟩, _, _⟩ := box2 bF
      exact bodyPost_ret (v := wv top (.slice a (winTo top b 32).length c)) (by simp [results, Try.results43, go_sem, z0, z1]) rfl ⟨_, rfl, gK, gB⟩
    | succ m =>
      have hcast : ((m + 1 : Nat) : Int) - 1 = (m : Int) := by omega
      rw [hcast]
      have hbv := bit_val (m := m) hb
      have HW := hidOf (winTo_at top b m (by omega))
      cases hbt : b.testBit m with
      | false =>
        rw [hbt] at hbv
        have hW := HW.out
        rw [if_neg (by simp [hbt])] at hW
        rw [← hW] at r2 HI
        clear HW hW q0 q1
        go_wp2
        go_roundw
        case rel => exact ⟨m, a, c, by go_num, by omega, r0, r1, r2, HI, hB, hsz⟩
        case measure => simp [intOf] <;> omega
      | true =>
        rw [hbt] at hbv
        have hW := HW.out
        rw [if_pos hbt] at hW
        clear HW
        have hl := winTo_len top b (32 - (m + 1))
        generalize winTo top b (32 - (m + 1)) = L at *
        have hA0 := hidOf (World.ownsRow.alloc HI.out (.cells #[.int .i64 (top - (m : Int))] 2))
        have hne : ∀ k, (Value.slice a L.length c).ownBlock = some k → w.heap.size + 1 + 1 + 1 ≤ k := fun k e => (HI.out.lt k e).1
        go_wp2_with (at_builtin; refine wpList_append_own _ rfl _ _ 24 rfl (w.heap.size + 1 + 1 + 1) 2 i0 (.int .i64 0) 1 8 Try.underlying24 hi hz0 hz1 hz2 rfl (by decide) _ _ _ rfl hA0.out ⟨wr.heap.size, 0, none⟩ 1 1 [.int .i64 (top - (m : Int))] rfl rfl (by intro j u hu; cases j with | zero => simp at hu; subst hu; simp [Addr.add] | succ j => simp at hu) (by simp [Value.oneCell']) (by unfold maxLen; omega) (by omega) (by simp; omega) ?_; intro v' w8 hown' hgrow _; obtain ⟨a', c', hv', hI'⟩ := ints_row (xs := L ++ [top - (m : Int)]) hown' (by simp); subst hv'; have HI' := hidOf hI'; clear hI' hown'; have s0 := blkA hgrow r0 (fun e => by have := hne _ e; omega); have s1 := blkA hgrow r1 (fun e => by have := hne _ e; omega); have s2 := blkA hgrow r2 (fun e => by have := hne _ e; omega); have hs8 := hgrow.size; simp only [World.size_alloc] at hs8; have HB8 : Hid (Below w.heap.size w w8) := (hB.alloc hB.size _).grown hgrow (by simp; omega) (fun k e => by have := hne _ e; omega); clear hgrow p0 p1 f0 f1 q0 q1 g0 g1 r0 r1 r2 hB; obtain ⟨⟨q0, q1⟩, g0, g1⟩ := box2 s2)
        have hLL : (L ++ [top - (m : Int)]).length = L.length + 1 := by simp
        have A0 := hidOf (blk (grown_set w8 (w.heap.size + 1 + 1) 1 (.slice a' (L.length + 1) c')) s0 (by omega))
        have A1 := hidOf (blk (grown_set w8 (w.heap.size + 1 + 1) 1 (.slice a' (L.length + 1) c')) s1 (by omega))
        go_roundw
        case rel =>
          refine ⟨m, a', c', by go_num, by omega, A0.out, A1.out, ?_, ?_, below_set HB8.out _ _ _ (by omega) (by omega), by simp; omega⟩
          · rw [hW, hLL]; exact box2_set1 s2 _
          · rw [hW, hLL]
            have hI := HI'.out
            rw [hLL] at hI
            exact hI.kept (grown_set _ _ _ _) (fun k e e' => by cases e; have := (hI.lt _ e').1; omega)
        case measure => simp [intOf] <;> omega
end Go.Proofs.Ythfgiabkafdbdaa.Wn
