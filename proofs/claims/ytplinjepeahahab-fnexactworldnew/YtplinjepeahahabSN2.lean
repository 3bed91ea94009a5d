
/- ServerNew of the program and of the model; the walk of its exact law. -/
import Derived.Test.YtplinjepeahahabSN1
import Derived.Test.YtplinjepeahahabSrv6m
namespace Go.Proofs.Ytplinjepeahahab
open Go.RowKit

theorem nil_seats (B : Nat) (w : World) : Seats B (.slice none 0 0) [] w := ⟨by simp [kcells], .inl ⟨rfl, rfl⟩⟩
theorem nil_ints2 (B : Nat) (w : World) : Ints B (.slice none 0 0) [] w := ⟨by simp, .inl ⟨rfl, rfl⟩⟩
theorem cell_one2 (W : World) (t : TypeId) (x : Value) : ∀ j u, [x][j]? = some u → (W.alloc (.cells #[x] t)).cell? ((⟨W.heap.size, 0, none⟩ : Addr).add j) = some u := by
  intro j u hu
  cases j with
  | zero => simp at hu; subst hu; simp [Addr.add]
  | succ j => simp at hu
theorem blkA2 {W W' : World} {o x : Obj} {R : Nat} {row : Option Nat} (hg : (W.alloc o).grownBy W' row) (h : W.heap[R]? = some x) (hne : row ≠ some R) : W'.heap[R]? = some x := by
  have hl := (Array.getElem?_eq_some_iff.1 h).1
  rw [hg.block R (by simp; omega) (fun e => hne e.symm), Below.heap_alloc _ _ _ hl]
  exact h
theorem ints_row2 {W : World} {B n : Nat} {v : Value} {ys : List Value} {xs : List Int} (h : W.ownsRow B 2 1 v n ys) (e : ys = xs.map (Value.int .i64)) (hn : xs.length = n) : ∃ a c, v = .slice a n c ∧ Ints B (.slice a n c) xs W := by
  subst e hn
  obtain ⟨a, c, hv, _, _⟩ := Ints.row (show Ints B v xs W from h)
  subst hv
  exact ⟨a, c, rfl, h⟩
theorem ints_lit2 {W : World} {B n : Nat} {v : Value} {xs : List Int} (h : Ints B v xs W) (hn : xs.length = n) (o : Obj) : (W.alloc o).ownsRow B 2 1 v n (xs.map (Value.int .i64)) := by
  subst hn
  exact World.ownsRow.alloc h o

set_option maxRecDepth 100000 in
set_option maxHeartbeats 2000000 in
theorem serverNew_any (w : World) :
    Calls Try.prog 24 #[] w fun e w' => ∃ a c, e = .returned (svv 0 (.slice a 15 c) (.slice none 0 0)) ∧ SrvIs w.heap.size (.slice a 15 c) (.slice none 0 0) (List.replicate 15 1) [] w' ∧ Below w.heap.size w w' := by
  have hB0 := two_below w (svb 0 (.slice none 0 0) (.slice none 0 0)) (.cells #[.int .i64 1] 2)
  have t0 : ((w.alloc (svb 0 (.slice none 0 0) (.slice none 0 0))).alloc (.cells #[.int .i64 1] 2)).heap[w.heap.size]? = some (svb 0 (.slice none 0 0) (.slice none 0 0)) := by
    rw [Below.heap_alloc _ _ _ (by simp)]
    exact heap_alloc_new _ _
  have hc : ((w.alloc (svb 0 (.slice none 0 0) (.slice none 0 0))).alloc (.cells #[.int .i64 1] 2)).cell? ⟨w.heap.size + 1, 0, none⟩ = some (.int .i64 1) := by
    have := heap_alloc_new (w.alloc (svb 0 (.slice none 0 0) (.slice none 0 0))) (.cells #[.int .i64 1] 2)
    simp at this
    simp [World.cell?, this]
  have hs0 : ((w.alloc (svb 0 (.slice none 0 0) (.slice none 0 0))).alloc (.cells #[.int .i64 1] 2)).heap.size = w.heap.size + 1 + 1 := by simp
  go_enter Try.func24, Try.ntmps24
  go_wp2_with fail
  generalize (w.alloc (svb 0 (.slice none 0 0) (.slice none 0 0))).alloc (.cells #[.int .i64 1] 2) = w1 at *
  refine (repeat15_any (w.heap.size + 1) _ hc).mono ?_
  rintro e w2 ⟨g, rfl, k2, b2⟩
  have s0 := (b2.block (w.heap.size) (by omega)).trans t0
  have hB2 := more hB0 b2
  have hk2 := k2.lt
  obtain ⟨⟨p0, p1, p2⟩, f0, f1, f2⟩ := box3 s0
  have HF : Hid ((((w2.setCell ⟨w.heap.size, 0, none⟩ (.int .i64 0)).setCell ⟨w.heap.size, 1, none⟩ (.slice (some ⟨g, 0, none⟩) 15 15)).setCell ⟨w.heap.size, 2, none⟩ (.slice none 0 0)).heap[w.heap.size]? = some (svb 0 (.slice (some ⟨g, 0, none⟩) 15 15) (.slice none 0 0))) := box3_set2 (box3_set1 (box3_set0 s0 _) _) _
  have HB' : Hid (Below w.heap.size w (((w2.setCell ⟨w.heap.size, 0, none⟩ (.int .i64 0)).setCell ⟨w.heap.size, 1, none⟩ (.slice (some ⟨g, 0, none⟩) 15 15)).setCell ⟨w.heap.size, 2, none⟩ (.slice none 0 0))) := ((hB2.setCell (by simp) _).setCell (by simp) _).setCell (by simp) _
  have HK : Hid (Ints w.heap.size (.slice (some ⟨g, 0, none⟩) 15 15) (List.replicate 15 1) (((w2.setCell ⟨w.heap.size, 0, none⟩ (.int .i64 0)).setCell ⟨w.heap.size, 1, none⟩ (.slice (some ⟨g, 0, none⟩) 15 15)).setCell ⟨w.heap.size, 2, none⟩ (.slice none 0 0))) :=
    (((k2.mono (by omega)).kept (grown_set _ _ _ _) (fun k e e' => by cases e; have := (hk2 _ e').1; omega)).kept (grown_set _ _ _ _) (fun k e e' => by cases e; have := (hk2 _ e').1; omega)).kept (grown_set _ _ _ _) (fun k e e' => by cases e; have := (hk2 _ e').1; omega)
  clear s0 k2 hk2 b2 t0
  go_wp2
  have bF := HF.out
  have gB := HB'.out
  have gK := HK.out
  clear HF HB' HK
  generalize ((w2.setCell ⟨w.heap.size, 0, none⟩ (.int .i64 0)).setCell ⟨w.heap.size, 1, none⟩ (.slice (some ⟨g, 0, none⟩) 15 15)).setCell ⟨w.heap.size, 2, none⟩ (.slice none 0 0) = WF at bF gB gK ⊢
  obtain ⟨⟨z0, z1, z2⟩, _, _, _⟩ := box3 bF
  exact bodyPost_ret (v := svv 0 (.slice (some ⟨g, 0, none⟩) 15 15) (.slice none 0 0)) (by simp [results, Try.results24, go_sem, z0, z1, z2]) rfl ⟨some ⟨g, 0, none⟩, 15, rfl, ⟨gK, nil_seats _ _, fun k _ e => by cases e⟩, gB⟩

set_option maxRecDepth 100000 in
set_option maxHeartbeats 2000000 in
theorem specServerNew_any (w : World) :
    Calls Try.prog 23 #[] w fun e w' => ∃ a c, e = .returned (svv 0 (.slice a 15 c) (.slice none 0 0)) ∧ SrvIs w.heap.size (.slice a 15 c) (.slice none 0 0) (List.replicate 15 1) [] w' ∧ Below w.heap.size w w' := by
  obtain ⟨i0, hi, hz0, hz1, hz2⟩ := info_parts infoI
  have hB0 := two_below w (svb 0 (.slice none 0 0) (.slice none 0 0)) (svb 0 (.slice none 0 0) (.slice none 0 0))
  have t0 : ((w.alloc (svb 0 (.slice none 0 0) (.slice none 0 0))).alloc (svb 0 (.slice none 0 0) (.slice none 0 0))).heap[w.heap.size]? = some (svb 0 (.slice none 0 0) (.slice none 0 0)) := by
    rw [Below.heap_alloc _ _ _ (by simp)]
    exact heap_alloc_new _ _
  have t1 : ((w.alloc (svb 0 (.slice none 0 0) (.slice none 0 0))).alloc (svb 0 (.slice none 0 0) (.slice none 0 0))).heap[w.heap.size + 1]? = some (svb 0 (.slice none 0 0) (.slice none 0 0)) := by
    have := heap_alloc_new (w.alloc (svb 0 (.slice none 0 0) (.slice none 0 0))) (svb 0 (.slice none 0 0) (.slice none 0 0))
    simpa using this
  have hs0 : ((w.alloc (svb 0 (.slice none 0 0) (.slice none 0 0))).alloc (svb 0 (.slice none 0 0) (.slice none 0 0))).heap.size = w.heap.size + 1 + 1 := by simp
  go_enter Try.func23, Try.ntmps23
  go_wp2
  generalize (w.alloc (svb 0 (.slice none 0 0) (.slice none 0 0))).alloc (svb 0 (.slice none 0 0) (.slice none 0 0)) = w1 at *
  go_loopw [2] (fun i wr => ∃ (k : Nat) (a : Option Addr) (c : Nat), i = .int .i64 (k : Int) ∧ k ≤ 15 ∧ wr.heap[w.heap.size]? = some (svb 0 (.slice none 0 0) (.slice none 0 0)) ∧ wr.heap[w.heap.size + 1]? = some (svb 0 (.slice a k c) (.slice none 0 0)) ∧ Hid (Ints (w.heap.size + 1 + 1) (.slice a k c) (List.replicate k 1) wr) ∧ Below w.heap.size w wr ∧ w.heap.size + 1 + 1 ≤ wr.heap.size) (fun i _ => 15 - (intOf i).toNat)
  case atStart => exact ⟨0, none, 0, rfl, by omega, t0, t1, nil_ints2 _ _, hB0, by omega⟩
  case round =>
    obtain ⟨k, a, c, rfl, hk, r0, r1, HI, hB, hsz⟩ := hrel
    clear t0 t1 hB0
    obtain ⟨⟨q0, q1, q2⟩, e0, e1, e2⟩ := box3 r1
    have hne : ∀ j, (Value.slice a k c).ownBlock = some j → w.heap.size + 1 + 1 ≤ j := fun j e => (HI.out.lt j e).1
    by_cases hlt : k < 15
    · go_wp2_with (at_builtin; refine wpList_append_own _ rfl _ _ 37 rfl (w.heap.size + 1 + 1) 2 i0 (.int .i64 0) 1 8 Try.underlying37 hi hz0 hz1 hz2 rfl (by decide) _ _ _ rfl (ints_lit2 (n := k) HI.out (by simp) _) ⟨wr.heap.size, 0, none⟩ 1 1 [.int .i64 1] rfl rfl (cell_one2 _ _ _) (by simp [Value.oneCell']) (by unfold maxLen; omega) (by omega) (by simp <;> omega) ?_; intro v' w8 hown' hgrow _; obtain ⟨a8, c8, hv', hI'⟩ := ints_row2 (xs := List.replicate k 1 ++ [1]) hown' (by simp) (by simp); subst hv'; have HI8 := hidOf' hI'; have s0 := blkA2 hgrow r0 (fun e => by have := hne _ e; omega); have s1 := blkA2 hgrow r1 (fun e => by have := hne _ e; omega); have hs8 := hgrow.size; simp only [World.size_alloc] at hs8; have HB8 : Hid (Below w.heap.size w w8) := (hB.alloc hB.size _).grown hgrow (by simp <;> omega) (fun k e => by have := hne _ e; omega); clear hown' hI' hgrow q0 q1 q2 e0 e1 e2 r0 r1 hB HI; obtain ⟨⟨q0, q1, q2⟩, e0, e1, e2⟩ := box3 s1)
      have A0 := hidOf' (blk' (k := w.heap.size) (grown_set w8 (w.heap.size + 1) 1 (.slice a8 (k + 1) c8)) s0 (by omega))
      have A1 := hidOf' (box3_set1 s1 (.slice a8 (k + 1) c8))
      have AI := hidOf' (HI8.out.kept (grown_set w8 (w.heap.size + 1) 1 (.slice a8 (k + 1) c8)) (fun j e e' => by cases e; have := (HI8.out.lt _ e').1; omega))
      have AB := hidOf' (below_set HB8.out (w.heap.size + 1) 1 (.slice a8 (k + 1) c8) (by omega) (by omega))
      go_roundw
      case rel => exact ⟨k + 1, a8, c8, by go_num, by omega, A0.out, A1.out, (by show Ints _ _ _ _; rw [List.replicate_succ']; exact AI.out), AB.out, by simp <;> omega⟩
      case measure => simp [intOf] <;> omega
    · obtain rfl : k = 15 := by omega
      obtain ⟨⟨p0, p1, p2⟩, f0, f1, f2⟩ := box3 r0
      have HF : Hid ((((wr.setCell ⟨w.heap.size, 0, none⟩ (.int .i64 0)).setCell ⟨w.heap.size, 1, none⟩ (.slice a 15 c)).setCell ⟨w.heap.size, 2, none⟩ (.slice none 0 0)).heap[w.heap.size]? = some (svb 0 (.slice a 15 c) (.slice none 0 0))) := box3_set2 (box3_set1 (box3_set0 r0 _) _) _
      have HB' : Hid (Below w.heap.size w (((wr.setCell ⟨w.heap.size, 0, none⟩ (.int .i64 0)).setCell ⟨w.heap.size, 1, none⟩ (.slice a 15 c)).setCell ⟨w.heap.size, 2, none⟩ (.slice none 0 0))) := ((hB.setCell (by simp) _).setCell (by simp) _).setCell (by simp) _
      have HK : Hid (Ints w.heap.size (.slice a 15 c) (List.replicate 15 1) (((wr.setCell ⟨w.heap.size, 0, none⟩ (.int .i64 0)).setCell ⟨w.heap.size, 1, none⟩ (.slice a 15 c)).setCell ⟨w.heap.size, 2, none⟩ (.slice none 0 0))) :=
        (((HI.out.mono (by omega)).kept (grown_set _ _ _ _) (fun k e e' => by cases e; have := hne _ e'; omega)).kept (grown_set _ _ _ _) (fun k e e' => by cases e; have := hne _ e'; omega)).kept (grown_set _ _ _ _) (fun k e e' => by cases e; have := hne _ e'; omega)
      clear r0 r1 HI
      go_wp2
      have bF := HF.out
      have gB := HB'.out
      have gK := HK.out
      clear HF HB' HK
      generalize ((wr.setCell ⟨w.heap.size, 0, none⟩ (.int .i64 0)).setCell ⟨w.heap.size, 1, none⟩ (.slice a 15 c)).setCell ⟨w.heap.size, 2, none⟩ (.slice none 0 0) = WF at bF gB gK ⊢
      obtain ⟨⟨z0, z1, z2⟩, _, _, _⟩ := box3 bF
      exact bodyPost_ret (v := svv 0 (.slice a 15 c) (.slice none 0 0)) (by simp [results, Try.results23, go_sem, z0, z1, z2]) rfl ⟨a, c, rfl, ⟨gK, nil_seats _ _, fun k _ e => by cases e⟩, gB⟩

end Go.Proofs.Ytplinjepeahahab
