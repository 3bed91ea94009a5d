
/- The contract of PathOf of the program: the way from a node to the root, in new memory. -/
import Derived.Test.YtplinjepeahahaaPath
namespace Go.Proofs.Ytplinjepeahahaa
open Go.RowKit Go.Shelf
attribute [local go_sem] Oper.semAt_some

set_option maxRecDepth 100000 in
set_option maxHeartbeats 2000000 in
theorem pathOf_in (n : Nat) (hn : 6 ≤ n) (x : Int) (w : World) :
    CallsIn Fence.wide n Try.prog 54 #[.int .i64 x] w fun e W' => ∃ v, e = .returned v ∧ Ints w.heap.size v (path x) W' ∧ Below w.heap.size w W' := by
  have hf1 : Fence.wide.fn 54 := trivial
  have h1 : 1 ≤ n := by omega
  obtain ⟨i0, hi, hz0, hz1, hz2⟩ := info_parts info64
  refine callsIn_of_wp_marks Try.func54 rfl hf1 ?_ rfl
  simp only [Try.ntmps54, List.size_toArray, List.length_cons, List.length_nil, Nat.reduceAdd, Nat.reduceSub, Array.replicate_succ, Array.replicate_zero, List.push_toArray, List.append_toArray, List.nil_append, List.cons_append]
  gi_wp2_with fail
  refine ⟨trivial, ?_⟩
  refine (callsIn_wide.2 (newTree_any _)).mono ?_
  rintro e w' ⟨rfl, rfl⟩
  gi_wp2_with fail
  refine ⟨trivial, ?_⟩
  refine (callsIn_wide.2 (up_any _ _)).mono ?_
  rintro e w' ⟨rfl, rfl⟩
  have bO := ((((Boxed.new w 22 (.slice none 0 0)).alloc treeObj).alloc treeObj).alloc treeObj).alloc (.cells #[.int .i64 x] 2)
  have hB0 : Below w.heap.size w (((((w.alloc (.cells #[.slice none 0 0] 22)).alloc treeObj).alloc treeObj).alloc treeObj).alloc (.cells #[.int .i64 x] 2)) :=
    (((((Below.refl _ w).alloc (Nat.le_refl _) _).alloc (by simp) _).alloc (by simp; omega) _).alloc (by simp; omega) _).alloc (by simp; omega) _
  have hN := heap_alloc_new ((((w.alloc (.cells #[.slice none 0 0] 22)).alloc treeObj).alloc treeObj).alloc treeObj) (.cells #[.int .i64 x] 2)
  have hT := (Below.heap_alloc ((((w.alloc (.cells #[.slice none 0 0] 22)).alloc treeObj).alloc treeObj).alloc treeObj) (.cells #[.int .i64 x] 2) _ (by simp)).trans (heap_alloc_new (((w.alloc (.cells #[.slice none 0 0] 22)).alloc treeObj).alloc treeObj) treeObj)
  simp only [World.size_alloc] at hN hT
  gi_wp2_with fail
  have hsz : (((((w.alloc (.cells #[.slice none 0 0] 22)).alloc treeObj).alloc treeObj).alloc treeObj).alloc (.cells #[.int .i64 x] 2)).heap.size = w.heap.size + 5 := by simp
  generalize ((((w.alloc (.cells #[.slice none 0 0] 22)).alloc treeObj).alloc treeObj).alloc treeObj).alloc (.cells #[.int .i64 x] 2) = W0 at bO hB0 hN hT hsz ⊢
  have hlen := path_len x
  refine wpIn_rangeFunc_ownG rfl h1 (gf := 75) (lb := #[.pointer (some ⟨w.heap.size + 1 + 1 + 1 + 1, 0, none⟩), .pointer (some ⟨w.heap.size + 1 + 1 + 1, 0, none⟩)]) rfl trivial (enters_of Try.func75 (by kernel_rfl) rfl)
    (up1_stops (n - 1) (by omega) _ _ x W0 hN hT) KpT.trans (KpT.book (by omega) (by omega)) (Below.refl _ _) (fun _ => rfl)
    (fun (pre : List Int) W => (∃ v, Boxed W w.heap.size 22 v ∧ W.ownsRow W0.heap.size 2 1 v pre.length (pre.map (Value.int .i64)) ∧ True) ∧ Below w.heap.size w W ∧ W0.heap.size ≤ W.heap.size)
    (fun _ _ _ => False)
    ?hI
    (fun _ _ _ _ _ hs _ _ => hs)
    ⟨⟨_, bO, World.ownsRow_nil _ _ _ _, trivial⟩, hB0, Nat.le_refl _⟩
    (fun y => { tmps := #[.int .i64 x, undef, .slice none 0 0, .pointer (some ⟨w.heap.size, 0, none⟩), .int .i64 y, .agg treeCells, .int .i64 x, .func (.func 75) #[] #[.pointer (some ⟨w.heap.size + 1 + 1 + 1 + 1, 0, none⟩), .pointer (some ⟨w.heap.size + 1 + 1 + 1, 0, none⟩)], .int .i64 y, undef, undef, undef, undef, undef], defers := [] }) ?assign ?body ?done ?stop
  case hI =>
    refine OwnFrom.and (Own.from (holdsRow_own W0.heap.size w.heap.size 22 2 1 (fun pre : List Int => pre.length) (fun pre : List Int => pre.map (Value.int .i64)) (fun _ _ => True)) _) (OwnFrom.and (ownFrom_below (Nat.le_refl _) (by omega)) ?_)
    intro s A B row hs hg hr
    have := hg.size
    omega
  case assign =>
    intro l y W K hK
    gi_wp2
    exact hK
  case body =>
    rintro l pre y W ⟨⟨v, hv, hrow, _⟩, hB, hW0⟩ hlt
    have hc := hv.cell
    gi_wp2_with (gi_at_builtin; refine wpListIn_append_own _ rfl _ _ 22 rfl W0.heap.size 2 i0 (.int .i64 0) 1 8 Try.underlying22 hi hz0 hz1 hz2 rfl (by decide) _ _ _ rfl (hrow.alloc _) ⟨W.heap.size, 0, none⟩ 1 1 [.int .i64 y] rfl rfl (cell_one_new _ _ _) (by simp [Value.oneCell']) (by unfold maxLen; omega) (by omega) (by simp; omega) ?_; intro v' w1 hown' hgrow _; obtain ⟨g', cap', rfl⟩ := ownsRow_succ hown'; obtain ⟨hv1, hv2, hr2, hk2, hb2, hold⟩ := boxed_appended (n₀ := w.heap.size) hv (by decide) hrow hW0 (by omega) (Nat.le_refl _) hown' hgrow; have hc1 := hv1.cell; have hf1 := hv1.frozen)
    exact ⟨hk2.from _, ⟨hold _ (by omega) (by omega), hold _ (by omega) (by omega)⟩, ⟨_, hv2, by simpa using hr2, trivial⟩, hB.trans hb2, by have := hb2.size; omega⟩
  case done =>
    rintro D ys W hD rfl ⟨⟨v, hv, hrow, _⟩, hB, _⟩ hK
    have hc := hv.cell
    gi_wp2
    refine ⟨by simp, .inl ⟨_, _, rfl, run_takeDeferred hK, ?_⟩⟩
    exact ⟨_, results_tmp rfl _ _ _, v, rfl, ownsRow_mono (ownsRow_putObj hrow _ hK rfl) (by omega), hB.trans (belowK_b (w := w) (Nat.le_refl _) W D _ _ (by omega) hK rfl rfl)⟩
  case stop =>
    rintro D c pre W _ _ h _
    exact h.elim

theorem pathOf_any (x : Int) (w : World) :
    Calls Try.prog 54 #[.int .i64 x] w fun e W' => ∃ v, e = .returned v ∧ Ints w.heap.size v (path x) W' ∧ Below w.heap.size w W' := callsIn_wide.1 (pathOf_in 6 (by omega) x w)
end Go.Proofs.Ytplinjepeahahaa
