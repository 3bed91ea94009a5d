
/- WorldNew of the program and of the model; the laws' helpers on a world without members and mail. -/
import Derived.Test.YtplinjepeahahabSN2
import Derived.Test.YtplinjepeahahabBox5
namespace Go.Proofs.Ytplinjepeahahab
open Go.RowKit

theorem worldNew_any (w : World) :
    Calls Try.prog 12 #[] w fun e w' => ∃ a c, e = .returned (wlv 0 (.slice a 15 c) (.slice none 0 0) (.slice none 0 0) (.slice none 0 0)) ∧ SrvIs w.heap.size (.slice a 15 c) (.slice none 0 0) (List.replicate 15 1) [] w' ∧ Below w.heap.size w w' := by
  have hB1 := one_below w (wlb 0 (.slice none 0 0) (.slice none 0 0) (.slice none 0 0) (.slice none 0 0))
  have t1 := heap_alloc_new w (wlb 0 (.slice none 0 0) (.slice none 0 0) (.slice none 0 0) (.slice none 0 0))
  have hs1 : (w.alloc (wlb 0 (.slice none 0 0) (.slice none 0 0) (.slice none 0 0) (.slice none 0 0))).heap.size = w.heap.size + 1 := by simp
  go_enter Try.func12, Try.ntmps12
  go_wp2_with fail
  generalize w.alloc (wlb 0 (.slice none 0 0) (.slice none 0 0) (.slice none 0 0) (.slice none 0 0)) = w1 at *
  refine (serverNew_any _).mono ?_
  rintro e w2 ⟨a, c, rfl, k2, b2⟩
  have s0 := (b2.block w.heap.size (by omega)).trans t1
  have hB2 := more hB1 b2
  have hk2 := k2.1.lt
  obtain ⟨⟨p0, p1, p2, p3, p4⟩, f0, f1, f2, f3, f4⟩ := box5 s0
  have HF := hidOf' (put5_box s0 (.int .i64 0) (.slice a 15 c) (.slice none 0 0) (.slice none 0 0) (.slice none 0 0))
  have hg := put5_grown w2 w.heap.size (.int .i64 0) (.slice a 15 c) (.slice none 0 0) (.slice none 0 0) (.slice none 0 0)
  have HB := hidOf' (hB2.grown hg hB2.size (fun k e => by cases e; exact Nat.le_refl _))
  have HK := hidOf' ((k2.1.mono (by omega : w.heap.size ≤ w1.heap.size)).kept hg (fun k e e' => by cases e; have := (hk2 _ e').1; omega))
  clear s0 k2 hk2 b2 t1 hg
  unfold put5 at HF HB HK
  go_wp2
  have bF := HF.out
  have gB := HB.out
  have gK := HK.out
  clear HF HB HK
  generalize ((((w2.setCell ⟨w.heap.size, 0, none⟩ (.int .i64 0)).setCell ⟨w.heap.size, 1, none⟩ (.slice a 15 c)).setCell ⟨w.heap.size, 2, none⟩ (.slice none 0 0)).setCell ⟨w.heap.size, 3, none⟩ (.slice none 0 0)).setCell ⟨w.heap.size, 4, none⟩ (.slice none 0 0) = WF at bF gB gK ⊢
  obtain ⟨⟨z0, z1, z2, z3, z4⟩, _, _, _, _, _⟩ := box5 bF
  exact bodyPost_ret (v := wlv 0 (.slice a 15 c) (.slice none 0 0) (.slice none 0 0) (.slice none 0 0)) (by simp [results, Try.results12, go_sem, z0, z1, z2, z3, z4]) rfl ⟨a, c, rfl, ⟨gK, nil_seats _ _, fun k _ e => by cases e⟩, gB⟩

theorem specWorldNew_any (w : World) :
    Calls Try.prog 11 #[] w fun e w' => ∃ a c, e = .returned (wlv 0 (.slice a 15 c) (.slice none 0 0) (.slice none 0 0) (.slice none 0 0)) ∧ SrvIs w.heap.size (.slice a 15 c) (.slice none 0 0) (List.replicate 15 1) [] w' ∧ Below w.heap.size w w' := by
  have hB1 := one_below w (wlb 0 (.slice none 0 0) (.slice none 0 0) (.slice none 0 0) (.slice none 0 0))
  have t1 := heap_alloc_new w (wlb 0 (.slice none 0 0) (.slice none 0 0) (.slice none 0 0) (.slice none 0 0))
  have hs1 : (w.alloc (wlb 0 (.slice none 0 0) (.slice none 0 0) (.slice none 0 0) (.slice none 0 0))).heap.size = w.heap.size + 1 := by simp
  go_enter Try.func11, Try.ntmps11
  go_wp2_with fail
  generalize w.alloc (wlb 0 (.slice none 0 0) (.slice none 0 0) (.slice none 0 0) (.slice none 0 0)) = w1 at *
  refine (specServerNew_any _).mono ?_
  rintro e w2 ⟨a, c, rfl, k2, b2⟩
  have s0 := (b2.block w.heap.size (by omega)).trans t1
  have hB2 := more hB1 b2
  have hk2 := k2.1.lt
  obtain ⟨⟨p0, p1, p2, p3, p4⟩, f0, f1, f2, f3, f4⟩ := box5 s0
  have HF := hidOf' (put5_box s0 (.int .i64 0) (.slice a 15 c) (.slice none 0 0) (.slice none 0 0) (.slice none 0 0))
  have hg := put5_grown w2 w.heap.size (.int .i64 0) (.slice a 15 c) (.slice none 0 0) (.slice none 0 0) (.slice none 0 0)
  have HB := hidOf' (hB2.grown hg hB2.size (fun k e => by cases e; exact Nat.le_refl _))
  have HK := hidOf' ((k2.1.mono (by omega : w.heap.size ≤ w1.heap.size)).kept hg (fun k e e' => by cases e; have := (hk2 _ e').1; omega))
  clear s0 k2 hk2 b2 t1 hg
  unfold put5 at HF HB HK
  go_wp2
  have bF := HF.out
  have gB := HB.out
  have gK := HK.out
  clear HF HB HK
  generalize ((((w2.setCell ⟨w.heap.size, 0, none⟩ (.int .i64 0)).setCell ⟨w.heap.size, 1, none⟩ (.slice a 15 c)).setCell ⟨w.heap.size, 2, none⟩ (.slice none 0 0)).setCell ⟨w.heap.size, 3, none⟩ (.slice none 0 0)).setCell ⟨w.heap.size, 4, none⟩ (.slice none 0 0) = WF at bF gB gK ⊢
  obtain ⟨⟨z0, z1, z2, z3, z4⟩, _, _, _, _, _⟩ := box5 bF
  exact bodyPost_ret (v := wlv 0 (.slice a 15 c) (.slice none 0 0) (.slice none 0 0) (.slice none 0 0)) (by simp [results, Try.results11, go_sem, z0, z1, z2, z3, z4]) rfl ⟨a, c, rfl, ⟨gK, nil_seats _ _, fun k _ e => by cases e⟩, gB⟩

theorem eqMemberS_nil (w : World) :
    Calls Try.prog 26 #[.slice none 0 0, .slice none 0 0] w fun e w' => e = .returned (.bool true) ∧ w' = w := by
  go_enter Try.func26, Try.ntmps26
  go_wp2
  refine wp_loop_rounds 1 ?_
  rw [rounds_succ]
  go_wp2
  go_ret
  exact ⟨rfl, rfl⟩
theorem eqMailS_nil (w : World) :
    Calls Try.prog 27 #[.slice none 0 0, .slice none 0 0] w fun e w' => e = .returned (.bool true) ∧ w' = w := by
  go_enter Try.func27, Try.ntmps27
  go_wp2
  refine wp_loop_rounds 1 ?_
  rw [rounds_succ]
  go_wp2
  go_ret
  exact ⟨rfl, rfl⟩
theorem markMemberS_nil (k : Int) (w : World) :
    Calls Try.prog 29 #[.slice none 0 0, .int .i64 k] w fun e w' => e = .returned (.int .i64 k) ∧ w' = w := by
  go_enter Try.func29, Try.ntmps29
  go_wp2
  refine wp_loop_rounds 1 ?_
  rw [rounds_succ]
  go_wp2
  go_ret
  exact ⟨rfl, rfl⟩
theorem markMailS_nil (k : Int) (w : World) :
    Calls Try.prog 30 #[.slice none 0 0, .int .i64 k] w fun e w' => e = .returned (.int .i64 k) ∧ w' = w := by
  go_enter Try.func30, Try.ntmps30
  go_wp2
  refine wp_loop_rounds 1 ?_
  rw [rounds_succ]
  go_wp2
  go_ret
  exact ⟨rfl, rfl⟩
theorem heldMemberS_nil (k : Int) (w : World) :
    Calls Try.prog 32 #[.slice none 0 0, .int .i64 k] w fun e w' => e = .returned (.int .i64 k) ∧ w' = w := by
  go_enter Try.func32, Try.ntmps32
  go_wp2
  refine wp_loop_rounds 1 ?_
  rw [rounds_succ]
  go_wp2
  go_ret
  exact ⟨rfl, rfl⟩
theorem heldMailS_nil (k : Int) (w : World) :
    Calls Try.prog 33 #[.slice none 0 0, .int .i64 k] w fun e w' => e = .returned (.int .i64 k) ∧ w' = w := by
  go_enter Try.func33, Try.ntmps33
  go_wp2
  refine wp_loop_rounds 1 ?_
  rw [rounds_succ]
  go_wp2
  go_ret
  exact ⟨rfl, rfl⟩

set_option maxHeartbeats 1000000 in
theorem eqWorldNew_any {B B' : Nat} {x x' : Value} {vs : List Int} {w : World} (hx : Ints B x vs w) (hx' : Ints B' x' vs w) :
    Calls Try.prog 13 #[wlv 0 x (.slice none 0 0) (.slice none 0 0) (.slice none 0 0), wlv 0 x' (.slice none 0 0) (.slice none 0 0) (.slice none 0 0)] w fun e w' => e = .returned (.bool true) ∧ Below w.heap.size w w' := by
  have hB2 := two_below w (wlb 0 x (.slice none 0 0) (.slice none 0 0) (.slice none 0 0)) (wlb 0 x' (.slice none 0 0) (.slice none 0 0) (.slice none 0 0))
  obtain ⟨c0, c1, c2, c3, c4⟩ := wcell5 w 0 x (.slice none 0 0) (.slice none 0 0) (.slice none 0 0) 44
  have d0 := cell_since c0 (one_below _ (wlb 0 x' (.slice none 0 0) (.slice none 0 0) (.slice none 0 0)))
  have d1 := cell_since c1 (one_below _ (wlb 0 x' (.slice none 0 0) (.slice none 0 0) (.slice none 0 0)))
  have d2 := cell_since c2 (one_below _ (wlb 0 x' (.slice none 0 0) (.slice none 0 0) (.slice none 0 0)))
  have d3 := cell_since c3 (one_below _ (wlb 0 x' (.slice none 0 0) (.slice none 0 0) (.slice none 0 0)))
  have d4 := cell_since c4 (one_below _ (wlb 0 x' (.slice none 0 0) (.slice none 0 0) (.slice none 0 0)))
  obtain ⟨p0, p1, p2, p3, p4⟩ := wcell5 (w.alloc (wlb 0 x (.slice none 0 0) (.slice none 0 0) (.slice none 0 0))) 0 x' (.slice none 0 0) (.slice none 0 0) (.slice none 0 0) 44
  have HX := hidOf' (hx.since hB2)
  have HX' := hidOf' (hx'.since hB2)
  clear c0 c1 c2 c3 c4 hx hx'
  simp only [World.size_alloc] at p0 p1 p2 p3 p4
  go_enter Try.func13, Try.ntmps13
  go_wp2_with fail
  generalize (w.alloc (wlb 0 x (.slice none 0 0) (.slice none 0 0) (.slice none 0 0))).alloc (wlb 0 x' (.slice none 0 0) (.slice none 0 0) (.slice none 0 0)) = w1 at *
  refine (eqServer_any 0 0 HX.out (nil_seats 0 _) HX'.out (nil_seats 0 _)).mono ?_
  rintro e w2 ⟨rfl, b2⟩
  rw [sameS_self]
  have d3 := cell_since d3 b2
  have d4 := cell_since d4 b2
  have p3 := cell_since p3 b2
  have p4 := cell_since p4 b2
  have HB := hidOf' (more hB2 b2)
  clear hB2 b2 HX HX' d0 d1 d2 p0 p1 p2
  go_wp2_with fail
  refine (eqMemberS_nil _).mono ?_
  rintro e w3 ⟨rfl, rfl⟩
  go_wp2_with fail
  refine (eqMailS_nil _).mono ?_
  rintro e w3 ⟨rfl, rfl⟩
  go_wp2
  go_ret
  exact ⟨rfl, HB.out⟩

set_option maxHeartbeats 1000000 in
theorem markWorldNew_any {B : Nat} {x : Value} {vs : List Int} {w : World} (k : Int) (h : SrvIs B x (.slice none 0 0) vs [] w) (hk : 0 ≤ k) (hs : k + vs.length ≤ 4611686018427387904) :
    Calls Try.prog 14 #[wlv 0 x (.slice none 0 0) (.slice none 0 0) (.slice none 0 0), .int .i64 k] w fun e w' => e = .returned (.int .i64 (k + vs.length)) ∧ SrvIs B x (.slice none 0 0) (marks k vs.length) [] w' ∧ w.grownBy w' x.ownBlock := by
  have hB1 := one_below w (wlb 0 x (.slice none 0 0) (.slice none 0 0) (.slice none 0 0))
  obtain ⟨c0, c1, c2, c3, c4⟩ := wcell5 w 0 x (.slice none 0 0) (.slice none 0 0) (.slice none 0 0) 44
  have H1 := hidOf' (h.since hB1)
  have hlx : ∀ j, x.ownBlock = some j → j < w.heap.size := fun j e => (h.1.lt j e).2
  have hG : w.grownBy (w.alloc (wlb 0 x (.slice none 0 0) (.slice none 0 0) (.slice none 0 0))) x.ownBlock := World.grownBy_alloc _ _ _
  clear h
  go_enter Try.func14, Try.ntmps14
  go_wp2_with fail
  generalize w.alloc (wlb 0 x (.slice none 0 0) (.slice none 0 0) (.slice none 0 0)) = w1 at *
  refine (markServer_any 0 k H1.out hk (by simpa using hs)).mono ?_
  rintro e w2 ⟨rfl, m2, wb, g2, g2'⟩
  have c3 := g2'.cell (g2.cell c3 (fun e => by have := hlx _ e.symm; simp at this)) (fun e => by cases e)
  have c4 := g2'.cell (g2.cell c4 (fun e => by have := hlx _ e.symm; simp at this)) (fun e => by cases e)
  have HG := hidOf' ((hG.trans g2).andThen g2' (fun k e => by cases e))
  have HM := hidOf' m2
  have e0 : k + (vs.length : Int) + 2 * (([] : List (Int × Int)).length : Int) = k + (vs.length : Int) := by simp
  rw [e0]
  clear m2 g2 g2' hG H1 c0 c1 c2 e0
  go_wp2_with fail
  refine (markMemberS_nil _ _).mono ?_
  rintro e w3 ⟨rfl, rfl⟩
  go_wp2_with fail
  refine (markMailS_nil _ _).mono ?_
  rintro e w3 ⟨rfl, rfl⟩
  go_wp2
  go_ret
  exact ⟨rfl, HM.out, HG.out⟩

set_option maxHeartbeats 1000000 in
theorem heldWorldNew_any {B : Nat} {x : Value} {w : World} (k : Int) (n : Nat) (h : SrvIs B x (.slice none 0 0) (marks k n) [] w) (hk : 0 ≤ k) (hs : k + n ≤ 4611686018427387904) :
    Calls Try.prog 15 #[wlv 0 x (.slice none 0 0) (.slice none 0 0) (.slice none 0 0), .int .i64 k] w fun e w' => e = .returned (.int .i64 (k + n)) ∧ Below w.heap.size w w' := by
  have hB1 := one_below w (wlb 0 x (.slice none 0 0) (.slice none 0 0) (.slice none 0 0))
  obtain ⟨c0, c1, c2, c3, c4⟩ := wcell5 w 0 x (.slice none 0 0) (.slice none 0 0) (.slice none 0 0) 44
  have H1 := hidOf' (h.since hB1)
  have hge : ¬ k + (n : Int) < 0 := by omega
  clear h
  go_enter Try.func15, Try.ntmps15
  go_wp2_with fail
  generalize w.alloc (wlb 0 x (.slice none 0 0) (.slice none 0 0) (.slice none 0 0)) = w1 at *
  refine (heldServer_any 0 k n 0 H1.out hk (by simpa using hs)).mono ?_
  rintro e w2 ⟨rfl, b2⟩
  have e0 : k + (n : Int) + 2 * ((0 : Nat) : Int) = k + (n : Int) := by simp
  rw [e0]
  have c3 := cell_since c3 b2
  have c4 := cell_since c4 b2
  have HB := hidOf' (more hB1 b2)
  clear hB1 b2 H1 c0 c1 c2 e0
  go_wp2_with fail
  refine (heldMemberS_nil _ _).mono ?_
  rintro e w3 ⟨rfl, rfl⟩
  go_wp2_with fail
  refine (heldMailS_nil _ _).mono ?_
  rintro e w3 ⟨rfl, rfl⟩
  go_wp2
  go_ret
  exact ⟨rfl, HB.out⟩
end Go.Proofs.Ytplinjepeahahab
