
/- Copies of members: ownMember of the program, l4Copy of the model. -/
import Derived.Test.YtkkjpkldfllfiaaCpy
namespace Go.Proofs.Ytkkjpkldfllfiaa
open Go.RowKit

theorem laterM {w W W' : World} {p1 p2 p3 : Addr} {v1 v2 v3 : Value} (h : W.cell? p1 = some v1 ∧ W.cell? p2 = some v2 ∧ W.cell? p3 = some v3 ∧ Below w.heap.size w W) (hb : Below W.heap.size W W') :
    W'.cell? p1 = some v1 ∧ W'.cell? p2 = some v2 ∧ W'.cell? p3 = some v3 ∧ Below w.heap.size w W' := ⟨cell_since h.1 hb, cell_since h.2.1 hb, cell_since h.2.2.1 hb, h.2.2.2.trans (hb.mono h.2.2.2.size)⟩

theorem emptyC (W : World) {S : Nat} (h : W.heap.size = S) : Keys S (.slice (some ⟨S, 0, none⟩) 0 0) [] (W.alloc (.cells #[] 33)) := by
  subst h
  exact World.ownsRow_lit (base := W.heap.size) (size := 2) W #[] 0 (Nat.le_refl _) (by decide) rfl
theorem blkC {W W' : World} {o x : Obj} {R : Nat} {row : Option Nat} (hg : (W.alloc o).grownBy W' row) (h : W.heap[R]? = some x) (hne : row ≠ some R) : W'.heap[R]? = some x := by
  have hl := (Array.getElem?_eq_some_iff.1 h).1
  rw [hg.block R (by simp; omega) (fun e => hne e.symm), Below.heap_alloc _ _ _ hl]
  exact h

set_option maxRecDepth 100000 in
set_option maxHeartbeats 1000000 in
theorem ownMember_any {B : Nat} {v : Value} {ks : List (Int × Int)} {w : World} (id ep : Int) (h : Keys B v ks w) (hl : ks.length ≤ 100000) :
    Calls Try.prog 69 #[mv id ep v] w fun e w' => ∃ p a c, e = .returned (.pointer (some ⟨p, 0, none⟩)) ∧ w'.heap[p]? = some (mb id ep (.slice a ks.length c)) ∧ Keys w.heap.size (.slice a ks.length c) ks w' ∧ w.heap.size ≤ p ∧ (Value.slice a ks.length c).ownBlock ≠ some p ∧ Below w.heap.size w w' := by
  obtain ⟨a, c, hv, _, _⟩ := h.row
  subst hv
  obtain ⟨c0, c1, c2⟩ := cell3 w id ep (.slice a ks.length c)
  have hB1 := one_below w (mb id ep (.slice a ks.length c))
  have HK := hidC (keysSince (keysSince h hB1) (Below.refl _ _).drew)
  clear h
  generalize hn : ks.length = n at *
  go_enter Try.func69, Try.ntmps69
  go_wp2
  generalize w.alloc (mb id ep (.slice a n c)) = w1 at *
  go_region_held3 (fun W => W.cell? ⟨w.heap.size, 0, none⟩ = some (.int .i64 id) ∧ W.cell? ⟨w.heap.size, 1, none⟩ = some (.int .i64 ep) ∧ W.cell? ⟨w.heap.size, 2, none⟩ = some (.slice a n c) ∧ Below w.heap.size w W)
    (first | exact ⟨c0, c1, c2, hB1.drew⟩ | exact laterM ‹_› b2 | exact laterM ‹_› (one_below _ _) | assumption)
    ((go_at_call 100; refine (copiedK_any HK.out (by omega)).mono ?_; rw [hn]; rintro e w2 ⟨a2, c2', rfl, k2, b2⟩))
  all_goals
    rename_i hHeld
    have hbW := hHeld.2.2.2
    clear hHeld
    have hlt := k2.lt
    have hsz : w.heap.size ≤ w1.heap.size := hB1.size
    have hs2 : w1.heap.size ≤ w2.heap.size := b2.size
    have HF := hidC (heap_alloc_new w2 (mb id ep (.slice a2 n c2')))
    have HKF := hidC (keysSince (k2.mono (show w.heap.size ≤ w1.heap.size from hsz)) (one_below w2 (mb id ep (.slice a2 n c2'))))
    have HBF := hidC hbW
    have HNE := hidC (show (Value.slice a2 n c2').ownBlock ≠ some w2.heap.size from fun e => by have := (hlt _ e).2; omega)
    clear hbW hlt k2 b2 HK c0 c1 c2
    go_wp2
    go_ret
    exact ⟨w2.heap.size, a2, c2', rfl, HF.out, HKF.out, by omega, HNE.out, HBF.out⟩

set_option maxRecDepth 100000 in
set_option maxHeartbeats 1000000 in
theorem l4Copy_any {B : Nat} {v : Value} {ks : List (Int × Int)} {w : World} (id ep : Int) (h : Keys B v ks w) (hl : ks.length ≤ 100000) :
    Calls Try.prog 74 #[mv id ep v] w fun e w' => ∃ a c, e = .returned (mv id ep (.slice a ks.length c)) ∧ Keys w.heap.size (.slice a ks.length c) ks w' ∧ Below w.heap.size w w' := by
  obtain ⟨a, c, hv, _, _⟩ := h.row
  subst hv
  have hB1 := two_below w (mb id ep (.slice a ks.length c)) (mb 0 0 (.slice none 0 0))
  have t0 : ((w.alloc (mb id ep (.slice a ks.length c))).alloc (mb 0 0 (.slice none 0 0))).heap[w.heap.size]? = some (mb id ep (.slice a ks.length c)) := by
    rw [Below.heap_alloc _ _ _ (by simp)]
    exact heap_alloc_new _ _
  have t1 : ((w.alloc (mb id ep (.slice a ks.length c))).alloc (mb 0 0 (.slice none 0 0))).heap[w.heap.size + 1]? = some (mb 0 0 (.slice none 0 0)) := by
    have := heap_alloc_new (w.alloc (mb id ep (.slice a ks.length c))) (mb 0 0 (.slice none 0 0))
    simpa using this
  have hs1 : ((w.alloc (mb id ep (.slice a ks.length c))).alloc (mb 0 0 (.slice none 0 0))).heap.size = w.heap.size + 1 + 1 := by simp
  have HK := hidC (keysSince (keysSince h hB1) (one_below _ (.cells #[] 33)))
  have HE := hidC (emptyC ((w.alloc (mb id ep (.slice a ks.length c))).alloc (mb 0 0 (.slice none 0 0))) hs1)
  clear h
  generalize hn : ks.length = n at *
  go_enter Try.func74, Try.ntmps74
  go_wp2_with (at_builtin; refine wpList_append_keysK rfl _ _ rfl (w.heap.size + 1 + 1) B (.slice (some ⟨w.heap.size + 1 + 1, 0, none⟩) 0 0) _ [] ks rfl HE.out rfl HK.out (by simp; omega) (by simp) ?_; intro a1 c1 w2 own1 gr1; simp only [List.length_nil, Nat.zero_add, List.nil_append, hn] at own1 ⊢; have s0 := blkC gr1 t0 (fun e => by have := Option.some.inj (show some (w.heap.size + 1 + 1) = some _ from e); omega); have s1 := blkC gr1 t1 (fun e => by have := Option.some.inj (show some (w.heap.size + 1 + 1) = some _ from e); omega); obtain ⟨⟨p0, p1, p2⟩, f0, f1, f2⟩ := box3 s0; obtain ⟨⟨q0, q1, q2⟩, g0, g1, g2⟩ := box3 s1)
  have hB2 : Below w.heap.size w w2 := (hB1.alloc hB1.size _).grown gr1 (by simp <;> omega) (fun j e => by have := Option.some.inj (show some (w.heap.size + 1 + 1) = some _ from e); omega)
  have hlt := own1.lt
  have bF := box3_set2 (box3_set1 (box3_set0 (blk' (k := w.heap.size + 1) (grown_set w2 w.heap.size 2 (.slice a1 n c1)) s1 (by omega)) (.int .i64 id)) (.int .i64 ep)) (.slice a1 n c1)
  have gK := ((((own1.mono (show w.heap.size ≤ w.heap.size + 1 + 1 by omega)).kept (grown_set w2 w.heap.size 2 (.slice a1 n c1)) (fun k e e' => by cases e; have := (hlt _ e').1; omega)).kept (grown_set _ (w.heap.size + 1) 0 (.int .i64 id)) (fun k e e' => by cases e; have := (hlt _ e').1; omega)).kept (grown_set _ (w.heap.size + 1) 1 (.int .i64 ep)) (fun k e e' => by cases e; have := (hlt _ e').1; omega)).kept (grown_set _ (w.heap.size + 1) 2 (.slice a1 n c1)) (fun k e e' => by cases e; have := (hlt _ e').1; omega)
  have gB : Below w.heap.size w ((((w2.setCell ⟨w.heap.size, 2, none⟩ (.slice a1 n c1)).setCell ⟨w.heap.size + 1, 0, none⟩ (.int .i64 id)).setCell ⟨w.heap.size + 1, 1, none⟩ (.int .i64 ep)).setCell ⟨w.heap.size + 1, 2, none⟩ (.slice a1 n c1)) := (((hB2.setCell (by simp) _).setCell (by simp) _).setCell (by simp) _).setCell (by simp) _
  generalize (((w2.setCell ⟨w.heap.size, 2, none⟩ (.slice a1 n c1)).setCell ⟨w.heap.size + 1, 0, none⟩ (.int .i64 id)).setCell ⟨w.heap.size + 1, 1, none⟩ (.int .i64 ep)).setCell ⟨w.heap.size + 1, 2, none⟩ (.slice a1 n c1) = WF at bF gK gB ⊢
  obtain ⟨⟨z0, z1, z2⟩, _, _, _⟩ := box3 bF
  exact bodyPost_ret (v := mv id ep (.slice a1 n c1)) (by simp [results, Try.results74, go_sem, z0, z1, z2]) rfl ⟨a1, c1, rfl, gK, gB⟩
end Go.Proofs.Ytkkjpkldfllfiaa
