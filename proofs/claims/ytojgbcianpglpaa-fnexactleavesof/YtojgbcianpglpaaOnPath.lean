
/- The contract of isOnPath: whether a node is on the way from another one to the root. -/
import Derived.Test.YtojgbcianpglpaaPath
namespace Go.Proofs.Ytojgbcianpglpaa
open Go.RowKit Go.Shelf
attribute [local go_sem] Oper.semAt_some

set_option maxRecDepth 100000 in
set_option maxHeartbeats 2000000 in
theorem isOnPath_in (n : Nat) (hn : 6 ≤ n) (x y : Int) (w : World) :
    CallsIn Fence.wide n Try.prog 31 #[.agg treeCells, .int .i64 x, .int .i64 y] w fun e W' => e = .returned (.bool (decide (x ∈ path y))) ∧ Below w.heap.size w W' := by
  have hf1 : Fence.wide.fn 31 := trivial
  have h1 : 1 ≤ n := by omega
  refine callsIn_of_wp_marks Try.func31 rfl hf1 ?_ rfl
  simp only [Try.ntmps31, List.size_toArray, List.length_cons, List.length_nil, Nat.reduceAdd, Nat.reduceSub, Array.replicate_succ, Array.replicate_zero, List.push_toArray, List.append_toArray, List.nil_append, List.cons_append]
  gi_wp2_with fail
  refine ⟨trivial, ?_⟩
  refine (callsIn_wide.2 (up_any _ _)).mono ?_
  rintro e w' ⟨rfl, rfl⟩
  have b1 := (((Boxed.new (w.alloc treeObj) 2 (.int .i64 x)).alloc (.cells #[.bool false] 4)).alloc treeObj).alloc (.cells #[.int .i64 y] 2)
  have b2 := ((Boxed.new ((w.alloc treeObj).alloc (.cells #[.int .i64 x] 2)) 4 (.bool false)).alloc treeObj).alloc (.cells #[.int .i64 y] 2)
  have hB0 : Below w.heap.size w (((((w.alloc treeObj).alloc (.cells #[.int .i64 x] 2)).alloc (.cells #[.bool false] 4)).alloc treeObj).alloc (.cells #[.int .i64 y] 2)) :=
    (((((Below.refl _ w).alloc (Nat.le_refl _) _).alloc (by simp) _).alloc (by simp; omega) _).alloc (by simp; omega) _).alloc (by simp; omega) _
  have hN := heap_alloc_new ((((w.alloc treeObj).alloc (.cells #[.int .i64 x] 2)).alloc (.cells #[.bool false] 4)).alloc treeObj) (.cells #[.int .i64 y] 2)
  have hT := (Below.heap_alloc ((((w.alloc treeObj).alloc (.cells #[.int .i64 x] 2)).alloc (.cells #[.bool false] 4)).alloc treeObj) (.cells #[.int .i64 y] 2) _ (by simp)).trans (heap_alloc_new (((w.alloc treeObj).alloc (.cells #[.int .i64 x] 2)).alloc (.cells #[.bool false] 4)) treeObj)
  simp only [World.size_alloc] at hN hT b1 b2
  gi_wp2_with fail
  have hsz : (((((w.alloc treeObj).alloc (.cells #[.int .i64 x] 2)).alloc (.cells #[.bool false] 4)).alloc treeObj).alloc (.cells #[.int .i64 y] 2)).heap.size = w.heap.size + 5 := by simp
  generalize ((((w.alloc treeObj).alloc (.cells #[.int .i64 x] 2)).alloc (.cells #[.bool false] 4)).alloc treeObj).alloc (.cells #[.int .i64 y] 2) = W0 at b1 b2 hB0 hN hT hsz ⊢
  refine wpIn_rangeFunc_ownG rfl h1 (gf := 38) (lb := #[.pointer (some ⟨w.heap.size + 1 + 1 + 1 + 1, 0, none⟩), .pointer (some ⟨w.heap.size + 1 + 1 + 1, 0, none⟩)]) rfl trivial (enters_of Try.func38 (by kernel_rfl) rfl)
    (up1_stops (n - 1) (by omega) _ _ y W0 hN hT) KpT.trans (KpT.book (by omega) (by omega)) (Below.refl _ _) (fun _ => rfl)
    (fun (pre : List Int) W => ((∀ z ∈ pre, z ≠ x) ∧ Boxed W (w.heap.size + 1) 2 (.int .i64 x) ∧ Boxed W (w.heap.size + 1 + 1) 4 (.bool false)) ∧ Below w.heap.size w W)
    (fun c (pre : List Int) W => (c = .ret ∧ x ∈ pre ∧ Boxed W (w.heap.size + 1 + 1) 4 (.bool true)) ∧ Below w.heap.size w W)
    ?hI ?hIx
    ⟨⟨by simp, b1, b2⟩, hB0⟩
    (fun z => { tmps := #[.agg treeCells, .int .i64 x, .int .i64 y, .pointer (some ⟨w.heap.size, 0, none⟩), .pointer (some ⟨w.heap.size + 1, 0, none⟩), undef, .pointer (some ⟨w.heap.size + 1 + 1, 0, none⟩), .int .i64 z, .agg treeCells, .int .i64 y, .func (.func 38) #[] #[.pointer (some ⟨w.heap.size + 1 + 1 + 1 + 1, 0, none⟩), .pointer (some ⟨w.heap.size + 1 + 1 + 1, 0, none⟩)], .int .i64 z, undef, undef, undef], defers := [] }) ?assign ?body ?done ?stop
  case hI =>
    refine OwnFrom.and (Own.from (fun s A B row hs hg hr => ⟨hs.1, ?_, ?_⟩) _) (ownFrom_below (Nat.le_refl _) (by omega))
    · exact hs.2.1.kept hg (fun e => by obtain ⟨o, ho, hc⟩ := hr _ e.symm; rw [show A.heap[_]? = _ from hs.2.1] at ho; cases ho; cases hc)
    · exact hs.2.2.kept hg (fun e => by obtain ⟨o, ho, hc⟩ := hr _ e.symm; rw [show A.heap[_]? = _ from hs.2.2] at ho; cases ho; cases hc)
  case hIx =>
    intro c
    refine OwnFrom.and (Own.from (fun s A B row hs hg hr => ⟨hs.1, hs.2.1, ?_⟩) _) (ownFrom_below (Nat.le_refl _) (by omega))
    exact hs.2.2.kept hg (fun e => by obtain ⟨o, ho, hc⟩ := hr _ e.symm; rw [show A.heap[_]? = _ from hs.2.2] at ho; cases ho; cases hc)
  case assign =>
    intro l z W K hK
    gi_wp2
    exact hK
  case body =>
    rintro l pre z W ⟨⟨hp, hx, hr⟩, hB⟩ hlt
    have hcx := hx.cell
    have hcr := hr.cell
    have hfr := hr.frozen
    have hgs := grownBy_setCell' W (w.heap.size + 1 + 1) (.bool true)
    have hlr := hr.lt
    gi_wp2
    · rename_i he
      obtain rfl : z = x := eq_of_beq he
      exact ⟨(KeepsOthers.setCell _ _ _).from _, ⟨rfl, List.mem_append.2 (.inr (by simp)), hr.set _⟩, hB.setCell (p := ⟨w.heap.size + 1 + 1, 0, none⟩) (by simp; omega) _⟩
    · rename_i he
      exact ⟨(KeepsOthers.refl _).from _, ⟨rfl, rfl⟩, ⟨fun u hu => (List.mem_append.1 hu).elim (hp u) (fun e e' => by simp at e; subst e; subst e'; simp at he), hx, hr⟩, hB⟩
  case done =>
    rintro D ys W hD rfl ⟨⟨hne, _, hr⟩, hB⟩ hK
    have hcr := hr.cell
    have hfr := hr.frozen
    gi_wp2
    have hK' := (KeepsOthers.setCell W ⟨w.heap.size + 1 + 1, 0, none⟩ (.bool false)).same D _ hK rfl
    refine ⟨by simp, .inl ⟨_, _, rfl, run_takeDeferred hK', ?_⟩⟩
    have hc5 := cell_kept (World.cell?_setCell_same' W ⟨w.heap.size + 1 + 1, 0, none⟩ (.bool false) (by rw [hcr]; rfl)) (grownBy_putObj' _ D (.deferred none)) (fun r e => by cases e; exact ⟨_, hK', rfl⟩)
    refine ⟨.bool false, ?_, by rw [decide_eq_false (fun h => hne x h rfl)], (hB.setCell (p := ⟨w.heap.size + 1 + 1, 0, none⟩) (by simp; omega) _).trans (belowK_b (w := w) (Nat.le_refl _) _ D _ _ (by omega) hK' rfl rfl)⟩
    simp [results, Try.f31, go_sem, hc5]
  case stop =>
    rintro D c pre W hD hpre ⟨⟨rfl, hin, hr⟩, hB⟩ hK
    have hcr := hr.cell
    gi_wp2
    refine ⟨by simp, .inl ⟨_, _, rfl, run_takeDeferred hK, ?_⟩⟩
    have hc5 := cell_kept hcr (grownBy_putObj' _ D (.deferred none)) (fun r e => by cases e; exact ⟨_, hK, rfl⟩)
    refine ⟨.bool true, ?_, by rw [decide_eq_true (hpre.subset hin)], hB.trans (belowK_b (w := w) (Nat.le_refl _) W D _ _ (by omega) hK rfl rfl)⟩
    simp [results, Try.f31, go_sem, hc5]

theorem isOnPath_any (x y : Int) (w : World) :
    Calls Try.prog 31 #[.agg treeCells, .int .i64 x, .int .i64 y] w fun e W' => e = .returned (.bool (decide (x ∈ path y))) ∧ Below w.heap.size w W' := callsIn_wide.1 (isOnPath_in 6 (by omega) x y w)
end Go.Proofs.Ytojgbcianpglpaa
