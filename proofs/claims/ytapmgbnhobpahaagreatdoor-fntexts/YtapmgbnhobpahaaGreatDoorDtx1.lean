/- What the drawn laws of the texts draw: a rekey. -/
import Derived.Test.YtapmgbnhobpahaaGreatDoorPart10
import Derived.Deep.Cut
namespace Go.Proofs.YtapmgbnhobpahaaGreatDoor
open Go.RowKit
namespace Dt

/-- What stands while the region is under way: the reader, the answer's block, the server's block and its lists. -/
structure Core (B R : Nat) (W : World) (q : Nat) (ep : Int) (X Y : Value) (vs : List Int) (ss : List (Int × Int)) (x : World) : Prop where
  rd : Q.Rd B R x
  gr : W.grownBy x (some R)
  b2 : x.heap[W.heap.size]? = some (rbD 0 (.slice none 0 0))
  b3 : x.heap[q]? = some (svb ep X Y)
  i : Ints W.heap.size X vs x
  s : Seats W.heap.size Y ss x
  rLt : R < W.heap.size
  q3 : W.heap.size < q
theorem Core.since {B R : Nat} {W : World} {q : Nat} {ep : Int} {X Y : Value} {vs : List Int} {ss : List (Int × Int)} {x x' : World} (h : Core B R W q ep X Y vs ss x) (hb : Below x.heap.size x x') : Core B R W q ep X Y vs ss x' :=
  ⟨h.rd.kept (Q.grown_below hb) (fun j e => by cases e), h.gr.andThen (Q.grown_below hb) (fun j e => by cases e), (hb.block _ (Q.blk_lt h.b2)).trans h.b2, (hb.block _ (Q.blk_lt h.b3)).trans h.b3, h.i.since hb, h.s.since hb, h.rLt, h.q3⟩
theorem Core.read {B R : Nat} {W : World} {q : Nat} {ep : Int} {X Y : Value} {vs : List Int} {ss : List (Int × Int)} {x x' : World} (h : Core B R W q ep X Y vs ss x) (hr : Q.Rd B R x') (hg : x.grownBy x' (some R)) : Core B R W q ep X Y vs ss x' :=
  ⟨hr, h.gr.trans hg, Q.blk hg h.b2 (by have := h.rLt; omega), Q.blk hg h.b3 (by have := h.rLt; have := h.q3; omega), h.i.kept hg (fun k e e' => by cases e; have := (h.i.lt _ e').1; have := h.rLt; omega), h.s.kept hg (fun k e e' => by cases e; have := (h.s.lt _ e').1; have := h.rLt; omega), h.rLt, h.q3⟩
theorem seatsMono {B B' : Nat} {v : Value} {ks : List (Int × Int)} {W : World} (h : Seats B v ks W) (hB : B' ≤ B) : Seats B' v ks W := by
  refine ⟨h.1, ?_⟩
  rcases h.2 with h | ⟨g, cap, cur, e, h1, h2⟩
  · exact .inl h
  · exact .inr ⟨g, cap, cur, e, Nat.le_trans hB h1, h2⟩
/-- A block of the region's own. -/
def Blk (W : World) (p : Nat) (o : Obj) (x : World) : Prop := x.heap[p]? = some o ∧ W.heap.size < p
theorem Blk.since {W x x' : World} {p : Nat} {o : Obj} (h : Blk W p o x) (hb : Below x.heap.size x x') : Blk W p o x' := ⟨(hb.block _ (Q.blk_lt h.1)).trans h.1, h.2⟩
theorem Blk.read {W x x' : World} {p R : Nat} {o : Obj} (h : Blk W p o x) (hg : x.grownBy x' (some R)) (hR : R < W.heap.size) : Blk W p o x' := ⟨Q.blk hg h.1 (by have := h.2; omega), h.2⟩
/-- What the region leaves: the answer's block as it was, the rekey in its own block p. -/
def Out (B R : Nat) (W : World) (p : Nat) (re : Int) (v : Value) (wl : List W4) (x : World) : Prop :=
  Q.Rd B R x ∧ W.grownBy x (some R) ∧ x.heap[W.heap.size]? = some (rbD 0 (.slice none 0 0)) ∧ x.heap[p]? = some (rbD re v) ∧ Wraps W.heap.size v wl x ∧ wl.length ≤ 8 ∧ R < W.heap.size ∧ W.heap.size < p
theorem wne {B j : Nat} {v : Value} {ws : List W4} {W : World} {cs : Array Value} {t : TypeId} (h : Wraps B v ws W) (hj : W.heap[j]? = some (.cells cs t)) (ht : t ≠ 56) : v.ownBlock ≠ some j := by
  intro e
  rcases h.2 with ⟨rfl, _⟩ | ⟨g, cap, cur, rfl, _, hg, _⟩
  · cases e
  · simp [Value.ownBlock] at e
    subst e
    rw [hg] at hj
    injection hj with hj
    injection hj with h1 h2
    exact ht h2.symm
theorem wlow {B B' : Nat} {v : Value} {ws : List W4} {W : World} (h : Wraps B v ws W) (hl : B' ≤ B) : Wraps B' v ws W := by
  refine ⟨h.1, ?_⟩
  rcases h.2 with h | ⟨g, cap, cur, e, h1, h2⟩
  · exact .inl h
  · exact .inr ⟨g, cap, cur, e, Nat.le_trans hl h1, h2⟩
theorem wsince {B : Nat} {v : Value} {ws : List W4} {W W' : World} (h : Wraps B v ws W) (hb : Below W.heap.size W W') : Wraps B v ws W' := h.below hb (fun k e => (World.ownsRow.lt h k e).2)
theorem wkept {B : Nat} {v : Value} {ws : List W4} {W W' : World} {row : Option Nat} (h : Wraps B v ws W) (hg : W.grownBy W' row) (hne : ∀ k, row = some k → v.ownBlock ≠ some k) : Wraps B v ws W' :=
  RowF.kept (r := ⟨B, 56, 4, v, ws.length, wcells ws⟩) h hg hne
theorem wform {B : Nat} {v : Value} {ws : List W4} {W : World} (h : Wraps B v ws W) : ∃ a n c, v = .slice a n c := by
  rcases h.form with ⟨rfl, _⟩ | ⟨g, cap, rfl, _⟩
  · exact ⟨_, _, _, rfl⟩
  · exact ⟨_, _, _, rfl⟩
theorem iform {B : Nat} {v : Value} {xs : List Int} {W : World} (h : Ints B v xs W) : ∃ a n c, v = .slice a n c := by
  obtain ⟨a, c, rfl, _⟩ := h.row
  exact ⟨_, _, _, rfl⟩
theorem sform {B : Nat} {v : Value} {xs : List (Int × Int)} {W : World} (h : Seats B v xs W) : ∃ a n c, v = .slice a n c := by
  rcases h.form with ⟨rfl, _⟩ | ⟨g, cap, rfl, _⟩
  · exact ⟨_, _, _, rfl⟩
  · exact ⟨_, _, _, rfl⟩
theorem put2 {W : World} {q : Nat} {x y : Value} {t : TypeId} (x' y' : Value) (h : W.heap[q]? = some (.cells #[x, y] t)) :
    ((W.setCell ⟨q, 0, none⟩ x').setCell ⟨q, 1, none⟩ y').heap[q]? = some (.cells #[x', y'] t) ∧ W.grownBy ((W.setCell ⟨q, 0, none⟩ x').setCell ⟨q, 1, none⟩ y') (some q) := ⟨Q.put2 h x' y', Q.grown_put2 W q x' y'⟩
/-- The two stores. -/
theorem stores {B R : Nat} {W : World} {q : Nat} {ep : Int} {X Y : Value} {vs : List Int} {ss : List (Int × Int)} {x : World} {p4 p5 : Nat} {re e0 : Int} {v a0 b0 : Value} {wl : List W4}
    (C : Core B R W q ep X Y vs ss x) (h4 : Blk W p4 (svb 0 (.slice none 0 0) (.slice none 0 0)) x) (h5 : Blk W p5 (rbD 0 (.slice none 0 0)) x) (hv : Wraps W.heap.size v wl x) (hl : wl.length ≤ 8) :
    ∃ y, y = ((x.setCell ⟨p4, 0, none⟩ (.int .i64 e0)).setCell ⟨p4, 1, none⟩ a0).setCell ⟨p4, 2, none⟩ b0 ∧ y.heap[p5]? = some (rbD 0 (.slice none 0 0)) ∧ Out B R W p5 re v wl ((y.setCell ⟨p5, 0, none⟩ (.int .i64 re)).setCell ⟨p5, 1, none⟩ v) := by
  have h45 : p4 ≠ p5 := fun e => by have := h4.1; rw [e, h5.1] at this; simp at this
  have g := ((grown_set x p4 0 (.int .i64 e0)).trans (grown_set _ p4 1 a0)).trans (grown_set _ p4 2 b0)
  obtain ⟨y, hy⟩ : ∃ y, y = ((x.setCell ⟨p4, 0, none⟩ (.int .i64 e0)).setCell ⟨p4, 1, none⟩ a0).setCell ⟨p4, 2, none⟩ b0 := ⟨_, rfl⟩
  rw [← hy] at g
  have c5 := (g.block p5 (Q.blk_lt h5.1) (by simpa using fun e => h45 e.symm)).trans h5.1
  refine ⟨y, hy, c5, ?_⟩
  have l4 := h4.2
  have l5 := h5.2
  have lR := C.rLt
  obtain ⟨e1, g2⟩ := put2 (.int .i64 re) v c5
  have v1 := wkept hv g (fun k e => by cases e; exact wne hv h4.1 (by decide))
  have hB : B ≤ R := C.rd.le
  have r1 := C.rd.kept g (fun j e => by cases e; exact ⟨by omega, by omega⟩)
  refine ⟨r1.kept g2 (fun j e => by cases e; exact ⟨by omega, by omega⟩), (C.gr.andThen g (fun j e => .inl (by cases e; omega))).andThen g2 (fun j e => .inl (by cases e; omega)), ?_, e1, wkept v1 g2 (fun k e => by cases e; exact wne v1 c5 (by decide)), hl, lR, l5⟩
  have b2 := (g.block W.heap.size (Q.blk_lt C.b2) (by simp; omega)).trans C.b2
  exact (g2.block W.heap.size (Q.blk_lt b2) (by simp; omega)).trans b2

set_option maxRecDepth 100000 in
set_option maxHeartbeats 40000000 in
theorem drawRekey_any (B R : Nat) (W : World) (h : Q.Rd B R W) :
    Calls Tryz.prog 26 #[.pointer (some ⟨R, 0, none⟩)] W fun e W' => ∃ (ep : Int) (x : Value) (ws : List W4), e = .returned (rvD ep x) ∧ Wraps W.heap.size x ws W' ∧ ws.length ≤ 8 ∧ Q.Rd B R W' ∧ W.grownBy W' (some R) := by
  have hR := h.lt
  have R1 := hidS (h.alloc (rbD 0 (.slice none 0 0)))
  have G1 := hidS (World.grownBy_alloc W (rbD 0 (.slice none 0 0)) (some R))
  have P1 := hidS (Q.blk_new W (rbD 0 (.slice none 0 0)))
  clear h
  go_enter Tryz.func26, Tryz.ntmps26
  go_wp2_with fail
  generalize hw1 : W.alloc (rbD 0 (.slice none 0 0)) = w1 at *
  have HZ1 := hidS (show w1.heap.size = W.heap.size + 1 by rw [← hw1]; simp)
  clear hw1
  have hsv := drawServer_any B R 8 w1 R1.out (by omega)
  rw [show (((8 : Nat) : Int)) = 8 from rfl] at hsv
  refine hsv.mono ?_
  clear hsv
  rintro e w2 ⟨ep, ax, cx, ay, ny, cy, vs, ss, rfl, hv, hny, h9, i2, s2, R2, g2⟩
  have hz := HZ1.out
  have C0 := hidS (show Core B R W w2.heap.size ep (.slice ax 15 cx) (.slice ay ny cy) vs ss (w2.alloc (svb ep (.slice ax 15 cx) (.slice ay ny cy))).drew from
    ⟨(R2.alloc _).drewN 1, ((G1.out.trans g2).trans (World.grownBy_alloc _ _ _)).trans (Q.grown_drew _ _), Q.blk_old (Q.blk g2 P1.out (by omega)) _, Q.blk_new _ _, (i2.mono (by omega)).since (one_below _ _).drew, (seatsMono s2 (by omega)).since (one_below _ _).drew, hR, by have := g2.size; omega⟩)
  clear i2 s2 R2 g2 P1 R1 G1 HZ1 hz
  go_upto_region 2 with fail
  generalize w2.heap.size = q at C0 ⊢
  go_cut [4, 5, 6, 7] from 10 to 18 (fun s4 s5 s6 s7 wx => ∃ (p : Nat) (re : Int) (v : Value) (wl : List W4) (code : Int), s5 = .pointer (some ⟨p, 0, none⟩) ∧ s7 = .int .i64 code ∧ Hid (Out B R W p re v wl wx))
  case first =>
    refine wp_region_any (by kernel_rfl) ?_
    try (change wpAny _ _ _ _ _ _ _ (World.drew _))
    generalize (w2.alloc (.cells #[.int .i64 ep, .slice ax 15 cx, .slice ay ny cy] 83)).drew = x0 at C0 ⊢
    refine wpAny_take (i := 1) (v := .pointer (some ⟨R, 0, none⟩)) rfl (by kernel_rfl) (by kernel_rfl) (by kernel_rfl) (fun _ _ _ h => h) (Or.inl ⟨by rfl, fun w => by go_simp⟩) ?_
    refine wpAny_ready (rs := [0, 2, 9, 10]) (by kernel_rfl) (by simp) ?_
    refine AllReady.cons rfl (fun K hK => ?_) (AllReady.cons rfl (fun K hK => ?_) (AllReady.cons rfl (fun K hK => ?_) (AllReady.cons rfl (fun K hK => ?_) AllReady.nil)))
    · obtain ⟨⟨o0, o1, o2⟩, o3, o4, o5⟩ := box3 C0.out.b3
      go_simp
      refine hK _ _ ?_
      clear hK K o0 o1 o2 o3 o4 o5
      refine wpAny_ready (rs := [2, 9, 10]) (by kernel_rfl) (by simp) ?_
      refine AllReady.cons rfl (fun K hK => ?_) (AllReady.cons rfl (fun K hK => ?_) (AllReady.cons rfl (fun K hK => ?_) AllReady.nil))
      · go_simp
        refine (drawOp_any B R _ C0.out.rd).mono ?_
        rintro e x1 ⟨k0, m0, rfl, hR0, hg0⟩
        have C1 := hidS (C0.out.read hR0 hg0)
        clear hR0 hg0 C0
        refine hK _ _ ?_
        clear hK K
        refine wpAny_ready (rs := [3, 9, 10]) (by kernel_rfl) (by simp) ?_
        refine AllReady.cons rfl (fun K hK => ?_) (AllReady.cons rfl (fun K hK => ?_) (AllReady.cons rfl (fun K hK => ?_) AllReady.nil))
        · go_simp
          refine (specDone_any ep k0 m0 C1.out.i C1.out.s).mono ?_
          rintro e x2 ⟨ep1, X1, Y1, vs1, ss1, re, v1, wl, u1, ks1, code, rfl, hz1, hi1, hs1, hz2, hw1, hwl, hz3, hz4, hb1, hz5⟩
          have C2 := hidS (C1.out.since hb1)
          have V2 := hidS (wlow hw1 C1.out.gr.size)
          obtain ⟨a1, n1, k1, rfl⟩ := iform hi1
          obtain ⟨a2, n2, k2, rfl⟩ := sform hs1
          obtain ⟨a3, n3, k3, rfl⟩ := wform hw1
          clear hz1 hz2 hz3 hz4 hz5 hi1 hs1 hw1 hb1 C1
          refine hK _ _ ?_
          clear hK K
          refine wpAny_take (i := 4) (v := .tuple #[svv ep1 (.slice a1 n1 k1) (.slice a2 n2 k2), rvD re (.slice a3 n3 k3), u1, .int .i64 code]) rfl (by kernel_rfl) (by kernel_rfl) (by kernel_rfl) (fun _ _ _ h => h) (Or.inl ⟨by rfl, fun w => by go_simp⟩) ?_
          refine wpAny_take (i := 5) (v := svv ep1 (.slice a1 n1 k1) (.slice a2 n2 k2)) rfl (by kernel_rfl) (by kernel_rfl) (by kernel_rfl) (fun _ _ _ h => h) (Or.inl ⟨by rfl, fun w => by go_simp⟩) ?_
          refine wpAny_take (i := 6) (v := rvD re (.slice a3 n3 k3)) rfl (by kernel_rfl) (by kernel_rfl) (by kernel_rfl) (fun _ _ _ h => h) (Or.inl ⟨by rfl, fun w => by go_simp⟩) ?_
          refine wpAny_take (i := 7) (v := u1) rfl (by kernel_rfl) (by kernel_rfl) (by kernel_rfl) (fun _ _ _ h => h) (Or.inl ⟨by rfl, fun w => by go_simp⟩) ?_
          refine wpAny_take (i := 8) (v := .int .i64 code) rfl (by kernel_rfl) (by kernel_rfl) (by kernel_rfl) (fun _ _ _ h => h) (Or.inl ⟨by rfl, fun w => by go_simp⟩) ?_
          refine wpAny_ready (rs := [9, 10]) (by kernel_rfl) (by simp) ?_
          refine AllReady.cons rfl (fun K hK => ?_) (AllReady.cons rfl (fun K hK => ?_) AllReady.nil)
          · go_simp
            refine hK _ _ ?_
            clear hK K
            have C3 := hidS (C2.out.since (one_below x2 (svb 0 (.slice none 0 0) (.slice none 0 0))))
            have F4_3 := hidS (show Blk W x2.heap.size (svb 0 (.slice none 0 0) (.slice none 0 0)) (x2.alloc (svb 0 (.slice none 0 0) (.slice none 0 0))) from ⟨Q.blk_new _ _, Q.blk_lt C2.out.b2⟩)
            have V3 := hidS (wsince V2.out (one_below x2 (svb 0 (.slice none 0 0) (.slice none 0 0))))
            clear C2 V2
            generalize x2.alloc (.cells #[.int .i64 0, .slice none 0 0, .slice none 0 0] 83) = x3 at C3 F4_3 V3 ⊢
            generalize x2.heap.size = p4 at F4_3 ⊢
            clear x2
            refine wpAny_ready (rs := [10]) (by kernel_rfl) (by simp) ?_
            refine AllReady.cons rfl (fun K hK => ?_) AllReady.nil
            · go_simp
              refine hK _ _ ?_
              clear hK K
              have C4 := hidS (C3.out.since (one_below x3 (rbD 0 (.slice none 0 0))))
              have F5_4 := hidS (show Blk W x3.heap.size (rbD 0 (.slice none 0 0)) (x3.alloc (rbD 0 (.slice none 0 0))) from ⟨Q.blk_new _ _, Q.blk_lt C3.out.b2⟩)
              have F4_4 := hidS (F4_3.out.since (one_below x3 (rbD 0 (.slice none 0 0))))
              have V4 := hidS (wsince V3.out (one_below x3 (rbD 0 (.slice none 0 0))))
              clear C3 F4_3 V3
              generalize x3.alloc (.cells #[.int .i64 0, .slice none 0 0] 32) = x4 at C4 F5_4 F4_4 V4 ⊢
              generalize x3.heap.size = p5 at F5_4 ⊢
              clear x3
              obtain ⟨y, hy, b5, HO⟩ := stores (re := re) (e0 := ep1) (a0 := .slice a1 n1 k1) (b0 := .slice a2 n2 k2) C4.out F4_4.out F5_4.out V4.out hwl
              have HO := hidS HO
              have HB5 := hidS b5
              obtain ⟨⟨t0, t1, t2⟩, t3, t4, t5⟩ := box3 F4_4.out.1
              clear b5 V4 F5_4 C4 F4_4
              refine wpAny_ready (rs := [11]) (by kernel_rfl) (by simp) ?_
              refine AllReady.cons rfl (fun K hK => ?_) AllReady.nil
              go_simp
              refine hK _ _ ?_
              clear hK K t0 t1 t2 t3 t4 t5
              rw [← hy]
              clear hy
              obtain ⟨⟨t0, t1⟩, t3, t4⟩ := box2K HB5.out
              refine wpAny_ready (rs := [12]) (by kernel_rfl) (by simp) ?_
              refine AllReady.cons rfl (fun K hK => ?_) AllReady.nil
              go_simp
              refine hK _ _ ?_
              clear hK K t0 t1 t3 t4
              refine wpAny_ready (rs := [13]) (by kernel_rfl) (by simp) ?_
              refine AllReady.cons rfl (fun K hK => ?_) AllReady.nil
              go_simp
              refine hK _ _ ?_
              clear hK K
              refine wpAny_ready (rs := [14]) (by kernel_rfl) (by simp) ?_
              refine AllReady.cons rfl (fun K hK => ?_) AllReady.nil
              go_simp
              refine hK _ _ ?_
              clear hK K
              refine wpAny_done (by kernel_rfl) ?_ _
              go_wp2_with fail
              go_meet
              exact ⟨_, re, _, wl, code, rfl, rfl, HO⟩
          · go_simp
            refine hK _ _ ?_
            clear hK K
            have C3 := hidS (C2.out.since (one_below x2 (rbD 0 (.slice none 0 0))))
            have F5_3 := hidS (show Blk W x2.heap.size (rbD 0 (.slice none 0 0)) (x2.alloc (rbD 0 (.slice none 0 0))) from ⟨Q.blk_new _ _, Q.blk_lt C2.out.b2⟩)
            have V3 := hidS (wsince V2.out (one_below x2 (rbD 0 (.slice none 0 0))))
            clear C2 V2
            generalize x2.alloc (.cells #[.int .i64 0, .slice none 0 0] 32) = x3 at C3 F5_3 V3 ⊢
            generalize x2.heap.size = p5 at F5_3 ⊢
            clear x2
            refine wpAny_ready (rs := [9]) (by kernel_rfl) (by simp) ?_
            refine AllReady.cons rfl (fun K hK => ?_) AllReady.nil
            · go_simp
              refine hK _ _ ?_
              clear hK K
              have C4 := hidS (C3.out.since (one_below x3 (svb 0 (.slice none 0 0) (.slice none 0 0))))
              have F4_4 := hidS (show Blk W x3.heap.size (svb 0 (.slice none 0 0) (.slice none 0 0)) (x3.alloc (svb 0 (.slice none 0 0) (.slice none 0 0))) from ⟨Q.blk_new _ _, Q.blk_lt C3.out.b2⟩)
              have F5_4 := hidS (F5_3.out.since (one_below x3 (svb 0 (.slice none 0 0) (.slice none 0 0))))
              have V4 := hidS (wsince V3.out (one_below x3 (svb 0 (.slice none 0 0) (.slice none 0 0))))
              clear C3 F5_3 V3
              generalize x3.alloc (.cells #[.int .i64 0, .slice none 0 0, .slice none 0 0] 83) = x4 at C4 F4_4 F5_4 V4 ⊢
              generalize x3.heap.size = p4 at F4_4 ⊢
              clear x3
              obtain ⟨y, hy, b5, HO⟩ := stores (re := re) (e0 := ep1) (a0 := .slice a1 n1 k1) (b0 := .slice a2 n2 k2) C4.out F4_4.out F5_4.out V4.out hwl
              have HO := hidS HO
              have HB5 := hidS b5
              obtain ⟨⟨t0, t1, t2⟩, t3, t4, t5⟩ := box3 F4_4.out.1
              clear b5 V4 F5_4 C4 F4_4
              refine wpAny_ready (rs := [11]) (by kernel_rfl) (by simp) ?_
              refine AllReady.cons rfl (fun K hK => ?_) AllReady.nil
              go_simp
              refine hK _ _ ?_
              clear hK K t0 t1 t2 t3 t4 t5
              rw [← hy]
              clear hy
              obtain ⟨⟨t0, t1⟩, t3, t4⟩ := box2K HB5.out
              refine wpAny_ready (rs := [12]) (by kernel_rfl) (by simp) ?_
              refine AllReady.cons rfl (fun K hK => ?_) AllReady.nil
              go_simp
              refine hK _ _ ?_
              clear hK K t0 t1 t3 t4
              refine wpAny_ready (rs := [13]) (by kernel_rfl) (by simp) ?_
              refine AllReady.cons rfl (fun K hK => ?_) AllReady.nil
              go_simp
              refine hK _ _ ?_
              clear hK K
              refine wpAny_ready (rs := [14]) (by kernel_rfl) (by simp) ?_
              refine AllReady.cons rfl (fun K hK => ?_) AllReady.nil
              go_simp
              refine hK _ _ ?_
              clear hK K
              refine wpAny_done (by kernel_rfl) ?_ _
              go_wp2_with fail
              go_meet
              exact ⟨_, re, _, wl, code, rfl, rfl, HO⟩
        · go_simp
          refine hK _ _ ?_
          clear hK K
          have C2 := hidS (C1.out.since (one_below x1 (svb 0 (.slice none 0 0) (.slice none 0 0))))
          have F4_2 := hidS (show Blk W x1.heap.size (svb 0 (.slice none 0 0) (.slice none 0 0)) (x1.alloc (svb 0 (.slice none 0 0) (.slice none 0 0))) from ⟨Q.blk_new _ _, Q.blk_lt C1.out.b2⟩)
          clear C1
          generalize x1.alloc (.cells #[.int .i64 0, .slice none 0 0, .slice none 0 0] 83) = x2 at C2 F4_2 ⊢
          generalize x1.heap.size = p4 at F4_2 ⊢
          clear x1
          refine wpAny_ready (rs := [3, 10]) (by kernel_rfl) (by simp) ?_
          refine AllReady.cons rfl (fun K hK => ?_) (AllReady.cons rfl (fun K hK => ?_) AllReady.nil)
          · go_simp
            refine (specDone_any ep k0 m0 C2.out.i C2.out.s).mono ?_
            rintro e x3 ⟨ep1, X1, Y1, vs1, ss1, re, v1, wl, u1, ks1, code, rfl, hz1, hi1, hs1, hz2, hw1, hwl, hz3, hz4, hb1, hz5⟩
            have C3 := hidS (C2.out.since hb1)
            have F4_3 := hidS (F4_2.out.since hb1)
            have V3 := hidS (wlow hw1 C2.out.gr.size)
            obtain ⟨a1, n1, k1, rfl⟩ := iform hi1
            obtain ⟨a2, n2, k2, rfl⟩ := sform hs1
            obtain ⟨a3, n3, k3, rfl⟩ := wform hw1
            clear hz1 hz2 hz3 hz4 hz5 hi1 hs1 hw1 hb1 C2 F4_2
            refine hK _ _ ?_
            clear hK K
            refine wpAny_take (i := 4) (v := .tuple #[svv ep1 (.slice a1 n1 k1) (.slice a2 n2 k2), rvD re (.slice a3 n3 k3), u1, .int .i64 code]) rfl (by kernel_rfl) (by kernel_rfl) (by kernel_rfl) (fun _ _ _ h => h) (Or.inl ⟨by rfl, fun w => by go_simp⟩) ?_
            refine wpAny_take (i := 5) (v := svv ep1 (.slice a1 n1 k1) (.slice a2 n2 k2)) rfl (by kernel_rfl) (by kernel_rfl) (by kernel_rfl) (fun _ _ _ h => h) (Or.inl ⟨by rfl, fun w => by go_simp⟩) ?_
            refine wpAny_take (i := 6) (v := rvD re (.slice a3 n3 k3)) rfl (by kernel_rfl) (by kernel_rfl) (by kernel_rfl) (fun _ _ _ h => h) (Or.inl ⟨by rfl, fun w => by go_simp⟩) ?_
            refine wpAny_take (i := 7) (v := u1) rfl (by kernel_rfl) (by kernel_rfl) (by kernel_rfl) (fun _ _ _ h => h) (Or.inl ⟨by rfl, fun w => by go_simp⟩) ?_
            refine wpAny_take (i := 8) (v := .int .i64 code) rfl (by kernel_rfl) (by kernel_rfl) (by kernel_rfl) (fun _ _ _ h => h) (Or.inl ⟨by rfl, fun w => by go_simp⟩) ?_
            refine wpAny_ready (rs := [10]) (by kernel_rfl) (by simp) ?_
            refine AllReady.cons rfl (fun K hK => ?_) AllReady.nil
            · go_simp
              refine hK _ _ ?_
              clear hK K
              have C4 := hidS (C3.out.since (one_below x3 (rbD 0 (.slice none 0 0))))
              have F5_4 := hidS (show Blk W x3.heap.size (rbD 0 (.slice none 0 0)) (x3.alloc (rbD 0 (.slice none 0 0))) from ⟨Q.blk_new _ _, Q.blk_lt C3.out.b2⟩)
              have F4_4 := hidS (F4_3.out.since (one_below x3 (rbD 0 (.slice none 0 0))))
              have V4 := hidS (wsince V3.out (one_below x3 (rbD 0 (.slice none 0 0))))
              clear C3 F4_3 V3
              generalize x3.alloc (.cells #[.int .i64 0, .slice none 0 0] 32) = x4 at C4 F5_4 F4_4 V4 ⊢
              generalize x3.heap.size = p5 at F5_4 ⊢
              clear x3
              obtain ⟨y, hy, b5, HO⟩ := stores (re := re) (e0 := ep1) (a0 := .slice a1 n1 k1) (b0 := .slice a2 n2 k2) C4.out F4_4.out F5_4.out V4.out hwl
              have HO := hidS HO
              have HB5 := hidS b5
              obtain ⟨⟨t0, t1, t2⟩, t3, t4, t5⟩ := box3 F4_4.out.1
              clear b5 V4 F5_4 C4 F4_4
              refine wpAny_ready (rs := [11]) (by kernel_rfl) (by simp) ?_
              refine AllReady.cons rfl (fun K hK => ?_) AllReady.nil
              go_simp
              refine hK _ _ ?_
              clear hK K t0 t1 t2 t3 t4 t5
              rw [← hy]
              clear hy
              obtain ⟨⟨t0, t1⟩, t3, t4⟩ := box2K HB5.out
              refine wpAny_ready (rs := [12]) (by kernel_rfl) (by simp) ?_
              refine AllReady.cons rfl (fun K hK => ?_) AllReady.nil
              go_simp
              refine hK _ _ ?_
              clear hK K t0 t1 t3 t4
              refine wpAny_ready (rs := [13]) (by kernel_rfl) (by simp) ?_
              refine AllReady.cons rfl (fun K hK => ?_) AllReady.nil
              go_simp
              refine hK _ _ ?_
              clear hK K
              refine wpAny_ready (rs := [14]) (by kernel_rfl) (by simp) ?_
              refine AllReady.cons rfl (fun K hK => ?_) AllReady.nil
              go_simp
              refine hK _ _ ?_
              clear hK K
              refine wpAny_done (by kernel_rfl) ?_ _
              go_wp2_with fail
              go_meet
              exact ⟨_, re, _, wl, code, rfl, rfl, HO⟩
          · go_simp
            refine hK _ _ ?_
            clear hK K
            have C3 := hidS (C2.out.since (one_below x2 (rbD 0 (.slice none 0 0))))
            have F5_3 := hidS (show Blk W x2.heap.size (rbD 0 (.slice none 0 0)) (x2.alloc (rbD 0 (.slice none 0 0))) from ⟨Q.blk_new _ _, Q.blk_lt C2.out.b2⟩)
            have F4_3 := hidS (F4_2.out.since (one_below x2 (rbD 0 (.slice none 0 0))))
            clear C2 F4_2
            generalize x2.alloc (.cells #[.int .i64 0, .slice none 0 0] 32) = x3 at C3 F5_3 F4_3 ⊢
            generalize x2.heap.size = p5 at F5_3 ⊢
            clear x2
            refine wpAny_ready (rs := [3]) (by kernel_rfl) (by simp) ?_
            refine AllReady.cons rfl (fun K hK => ?_) AllReady.nil
            · go_simp
              refine (specDone_any ep k0 m0 C3.out.i C3.out.s).mono ?_
              rintro e x4 ⟨ep1, X1, Y1, vs1, ss1, re, v1, wl, u1, ks1, code, rfl, hz1, hi1, hs1, hz2, hw1, hwl, hz3, hz4, hb1, hz5⟩
              have C4 := hidS (C3.out.since hb1)
              have F4_4 := hidS (F4_3.out.since hb1)
              have F5_4 := hidS (F5_3.out.since hb1)
              have V4 := hidS (wlow hw1 C3.out.gr.size)
              obtain ⟨a1, n1, k1, rfl⟩ := iform hi1
              obtain ⟨a2, n2, k2, rfl⟩ := sform hs1
              obtain ⟨a3, n3, k3, rfl⟩ := wform hw1
              clear hz1 hz2 hz3 hz4 hz5 hi1 hs1 hw1 hb1 C3 F4_3 F5_3
              refine hK _ _ ?_
              clear hK K
              refine wpAny_take (i := 4) (v := .tuple #[svv ep1 (.slice a1 n1 k1) (.slice a2 n2 k2), rvD re (.slice a3 n3 k3), u1, .int .i64 code]) rfl (by kernel_rfl) (by kernel_rfl) (by kernel_rfl) (fun _ _ _ h => h) (Or.inl ⟨by rfl, fun w => by go_simp⟩) ?_
              refine wpAny_take (i := 5) (v := svv ep1 (.slice a1 n1 k1) (.slice a2 n2 k2)) rfl (by kernel_rfl) (by kernel_rfl) (by kernel_rfl) (fun _ _ _ h => h) (Or.inl ⟨by rfl, fun w => by go_simp⟩) ?_
              refine wpAny_take (i := 6) (v := rvD re (.slice a3 n3 k3)) rfl (by kernel_rfl) (by kernel_rfl) (by kernel_rfl) (fun _ _ _ h => h) (Or.inl ⟨by rfl, fun w => by go_simp⟩) ?_
              refine wpAny_take (i := 7) (v := u1) rfl (by kernel_rfl) (by kernel_rfl) (by kernel_rfl) (fun _ _ _ h => h) (Or.inl ⟨by rfl, fun w => by go_simp⟩) ?_
              refine wpAny_take (i := 8) (v := .int .i64 code) rfl (by kernel_rfl) (by kernel_rfl) (by kernel_rfl) (fun _ _ _ h => h) (Or.inl ⟨by rfl, fun w => by go_simp⟩) ?_
              obtain ⟨y, hy, b5, HO⟩ := stores (re := re) (e0 := ep1) (a0 := .slice a1 n1 k1) (b0 := .slice a2 n2 k2) C4.out F4_4.out F5_4.out V4.out hwl
              have HO := hidS HO
              have HB5 := hidS b5
              obtain ⟨⟨t0, t1, t2⟩, t3, t4, t5⟩ := box3 F4_4.out.1
              clear b5 V4 F5_4 C4 F4_4
              refine wpAny_ready (rs := [11]) (by kernel_rfl) (by simp) ?_
              refine AllReady.cons rfl (fun K hK => ?_) AllReady.nil
              go_simp
              refine hK _ _ ?_
              clear hK K t0 t1 t2 t3 t4 t5
              rw [← hy]
              clear hy
              obtain ⟨⟨t0, t1⟩, t3, t4⟩ := box2K HB5.out
              refine wpAny_ready (rs := [12]) (by kernel_rfl) (by simp) ?_
              refine AllReady.cons rfl (fun K hK => ?_) AllReady.nil
              go_simp
              refine hK _ _ ?_
              clear hK K t0 t1 t3 t4
              refine wpAny_ready (rs := [13]) (by kernel_rfl) (by simp) ?_
              refine AllReady.cons rfl (fun K hK => ?_) AllReady.nil
              go_simp
              refine hK _ _ ?_
              clear hK K
              refine wpAny_ready (rs := [14]) (by kernel_rfl) (by simp) ?_
              refine AllReady.cons rfl (fun K hK => ?_) AllReady.nil
              go_simp
              refine hK _ _ ?_
              clear hK K
              refine wpAny_done (by kernel_rfl) ?_ _
              go_wp2_with fail
              go_meet
              exact ⟨_, re, _, wl, code, rfl, rfl, HO⟩
        · go_simp
          refine hK _ _ ?_
          clear hK K
          have C2 := hidS (C1.out.since (one_below x1 (rbD 0 (.slice none 0 0))))
          have F5_2 := hidS (show Blk W x1.heap.size (rbD 0 (.slice none 0 0)) (x1.alloc (rbD 0 (.slice none 0 0))) from ⟨Q.blk_new _ _, Q.blk_lt C1.out.b2⟩)
          clear C1
          generalize x1.alloc (.cells #[.int .i64 0, .slice none 0 0] 32) = x2 at C2 F5_2 ⊢
          generalize x1.heap.size = p5 at F5_2 ⊢
          clear x1
          refine wpAny_ready (rs := [3, 9]) (by kernel_rfl) (by simp) ?_
          refine AllReady.cons rfl (fun K hK => ?_) (AllReady.cons rfl (fun K hK => ?_) AllReady.nil)
          · go_simp
            refine (specDone_any ep k0 m0 C2.out.i C2.out.s).mono ?_
            rintro e x3 ⟨ep1, X1, Y1, vs1, ss1, re, v1, wl, u1, ks1, code, rfl, hz1, hi1, hs1, hz2, hw1, hwl, hz3, hz4, hb1, hz5⟩
            have C3 := hidS (C2.out.since hb1)
            have F5_3 := hidS (F5_2.out.since hb1)
            have V3 := hidS (wlow hw1 C2.out.gr.size)
            obtain ⟨a1, n1, k1, rfl⟩ := iform hi1
            obtain ⟨a2, n2, k2, rfl⟩ := sform hs1
            obtain ⟨a3, n3, k3, rfl⟩ := wform hw1
            clear hz1 hz2 hz3 hz4 hz5 hi1 hs1 hw1 hb1 C2 F5_2
            refine hK _ _ ?_
            clear hK K
            refine wpAny_take (i := 4) (v := .tuple #[svv ep1 (.slice a1 n1 k1) (.slice a2 n2 k2), rvD re (.slice a3 n3 k3), u1, .int .i64 code]) rfl (by kernel_rfl) (by kernel_rfl) (by kernel_rfl) (fun _ _ _ h => h) (Or.inl ⟨by rfl, fun w => by go_simp⟩) ?_
            refine wpAny_take (i := 5) (v := svv ep1 (.slice a1 n1 k1) (.slice a2 n2 k2)) rfl (by kernel_rfl) (by kernel_rfl) (by kernel_rfl) (fun _ _ _ h => h) (Or.inl ⟨by rfl, fun w => by go_simp⟩) ?_
            refine wpAny_take (i := 6) (v := rvD re (.slice a3 n3 k3)) rfl (by kernel_rfl) (by kernel_rfl) (by kernel_rfl) (fun _ _ _ h => h) (Or.inl ⟨by rfl, fun w => by go_simp⟩) ?_
            refine wpAny_take (i := 7) (v := u1) rfl (by kernel_rfl) (by kernel_rfl) (by kernel_rfl) (fun _ _ _ h => h) (Or.inl ⟨by rfl, fun w => by go_simp⟩) ?_
            refine wpAny_take (i := 8) (v := .int .i64 code) rfl (by kernel_rfl) (by kernel_rfl) (by kernel_rfl) (fun _ _ _ h => h) (Or.inl ⟨by rfl, fun w => by go_simp⟩) ?_
            refine wpAny_ready (rs := [9]) (by kernel_rfl) (by simp) ?_
            refine AllReady.cons rfl (fun K hK => ?_) AllReady.nil
            · go_simp
              refine hK _ _ ?_
              clear hK K
              have C4 := hidS (C3.out.since (one_below x3 (svb 0 (.slice none 0 0) (.slice none 0 0))))
              have F4_4 := hidS (show Blk W x3.heap.size (svb 0 (.slice none 0 0) (.slice none 0 0)) (x3.alloc (svb 0 (.slice none 0 0) (.slice none 0 0))) from ⟨Q.blk_new _ _, Q.blk_lt C3.out.b2⟩)
              have F5_4 := hidS (F5_3.out.since (one_below x3 (svb 0 (.slice none 0 0) (.slice none 0 0))))
              have V4 := hidS (wsince V3.out (one_below x3 (svb 0 (.slice none 0 0) (.slice none 0 0))))
              clear C3 F5_3 V3
              generalize x3.alloc (.cells #[.int .i64 0, .slice none 0 0, .slice none 0 0] 83) = x4 at C4 F4_4 F5_4 V4 ⊢
              generalize x3.heap.size = p4 at F4_4 ⊢
              clear x3
              obtain ⟨y, hy, b5, HO⟩ := stores (re := re) (e0 := ep1) (a0 := .slice a1 n1 k1) (b0 := .slice a2 n2 k2) C4.out F4_4.out F5_4.out V4.out hwl
              have HO := hidS HO
              have HB5 := hidS b5
              obtain ⟨⟨t0, t1, t2⟩, t3, t4, t5⟩ := box3 F4_4.out.1
              clear b5 V4 F5_4 C4 F4_4
              refine wpAny_ready (rs := [11]) (by kernel_rfl) (by simp) ?_
              refine AllReady.cons rfl (fun K hK => ?_) AllReady.nil
              go_simp
              refine hK _ _ ?_
              clear hK K t0 t1 t2 t3 t4 t5
              rw [← hy]
              clear hy
              obtain ⟨⟨t0, t1⟩, t3, t4⟩ := box2K HB5.out
              refine wpAny_ready (rs := [12]) (by kernel_rfl) (by simp) ?_
              refine AllReady.cons rfl (fun K hK => ?_) AllReady.nil
              go_simp
              refine hK _ _ ?_
              clear hK K t0 t1 t3 t4
              refine wpAny_ready (rs := [13]) (by kernel_rfl) (by simp) ?_
              refine AllReady.cons rfl (fun K hK => ?_) AllReady.nil
              go_simp
              refine hK _ _ ?_
              clear hK K
              refine wpAny_ready (rs := [14]) (by kernel_rfl) (by simp) ?_
              refine AllReady.cons rfl (fun K hK => ?_) AllReady.nil
              go_simp
              refine hK _ _ ?_
              clear hK K
              refine wpAny_done (by kernel_rfl) ?_ _
              go_wp2_with fail
              go_meet
              exact ⟨_, re, _, wl, code, rfl, rfl, HO⟩
          · go_simp
            refine hK _ _ ?_
            clear hK K
            have C3 := hidS (C2.out.since (one_below x2 (svb 0 (.slice none 0 0) (.slice none 0 0))))
            have F4_3 := hidS (show Blk W x2.heap.size (svb 0 (.slice none 0 0) (.slice none 0 0)) (x2.alloc (svb 0 (.slice none 0 0) (.slice none 0 0))) from ⟨Q.blk_new _ _, Q.blk_lt C2.out.b2⟩)
            have F5_3 := hidS (F5_2.out.since (one_below x2 (svb 0 (.slice none 0 0) (.slice none 0 0))))
            clear C2 F5_2
            generalize x2.alloc (.cells #[.int .i64 0, .slice none 0 0, .slice none 0 0] 83) = x3 at C3 F4_3 F5_3 ⊢
            generalize x2.heap.size = p4 at F4_3 ⊢
            clear x2
            refine wpAny_ready (rs := [3]) (by kernel_rfl) (by simp) ?_
            refine AllReady.cons rfl (fun K hK => ?_) AllReady.nil
            · go_simp
              refine (specDone_any ep k0 m0 C3.out.i C3.out.s).mono ?_
              rintro e x4 ⟨ep1, X1, Y1, vs1, ss1, re, v1, wl, u1, ks1, code, rfl, hz1, hi1, hs1, hz2, hw1, hwl, hz3, hz4, hb1, hz5⟩
              have C4 := hidS (C3.out.since hb1)
              have F4_4 := hidS (F4_3.out.since hb1)
              have F5_4 := hidS (F5_3.out.since hb1)
              have V4 := hidS (wlow hw1 C3.out.gr.size)
              obtain ⟨a1, n1, k1, rfl⟩ := iform hi1
              obtain ⟨a2, n2, k2, rfl⟩ := sform hs1
              obtain ⟨a3, n3, k3, rfl⟩ := wform hw1
              clear hz1 hz2 hz3 hz4 hz5 hi1 hs1 hw1 hb1 C3 F4_3 F5_3
              refine hK _ _ ?_
              clear hK K
              refine wpAny_take (i := 4) (v := .tuple #[svv ep1 (.slice a1 n1 k1) (.slice a2 n2 k2), rvD re (.slice a3 n3 k3), u1, .int .i64 code]) rfl (by kernel_rfl) (by kernel_rfl) (by kernel_rfl) (fun _ _ _ h => h) (Or.inl ⟨by rfl, fun w => by go_simp⟩) ?_
              refine wpAny_take (i := 5) (v := svv ep1 (.slice a1 n1 k1) (.slice a2 n2 k2)) rfl (by kernel_rfl) (by kernel_rfl) (by kernel_rfl) (fun _ _ _ h => h) (Or.inl ⟨by rfl, fun w => by go_simp⟩) ?_
              refine wpAny_take (i := 6) (v := rvD re (.slice a3 n3 k3)) rfl (by kernel_rfl) (by kernel_rfl) (by kernel_rfl) (fun _ _ _ h => h) (Or.inl ⟨by rfl, fun w => by go_simp⟩) ?_
              refine wpAny_take (i := 7) (v := u1) rfl (by kernel_rfl) (by kernel_rfl) (by kernel_rfl) (fun _ _ _ h => h) (Or.inl ⟨by rfl, fun w => by go_simp⟩) ?_
              refine wpAny_take (i := 8) (v := .int .i64 code) rfl (by kernel_rfl) (by kernel_rfl) (by kernel_rfl) (fun _ _ _ h => h) (Or.inl ⟨by rfl, fun w => by go_simp⟩) ?_
              obtain ⟨y, hy, b5, HO⟩ := stores (re := re) (e0 := ep1) (a0 := .slice a1 n1 k1) (b0 := .slice a2 n2 k2) C4.out F4_4.out F5_4.out V4.out hwl
              have HO := hidS HO
              have HB5 := hidS b5
              obtain ⟨⟨t0, t1, t2⟩, t3, t4, t5⟩ := box3 F4_4.out.1
              clear b5 V4 F5_4 C4 F4_4
              refine wpAny_ready (rs := [11]) (by kernel_rfl) (by simp) ?_
              refine AllReady.cons rfl (fun K hK => ?_) AllReady.nil
              go_simp
              refine hK _ _ ?_
              clear hK K t0 t1 t2 t3 t4 t5
              rw [← hy]
              clear hy
              obtain ⟨⟨t0, t1⟩, t3, t4⟩ := box2K HB5.out
              refine wpAny_ready (rs := [12]) (by kernel_rfl) (by simp) ?_
              refine AllReady.cons rfl (fun K hK => ?_) AllReady.nil
              go_simp
              refine hK _ _ ?_
              clear hK K t0 t1 t3 t4
              refine wpAny_ready (rs := [13]) (by kernel_rfl) (by simp) ?_
              refine AllReady.cons rfl (fun K hK => ?_) AllReady.nil
              go_simp
              refine hK _ _ ?_
              clear hK K
              refine wpAny_ready (rs := [14]) (by kernel_rfl) (by simp) ?_
              refine AllReady.cons rfl (fun K hK => ?_) AllReady.nil
              go_simp
              refine hK _ _ ?_
              clear hK K
              refine wpAny_done (by kernel_rfl) ?_ _
              go_wp2_with fail
              go_meet
              exact ⟨_, re, _, wl, code, rfl, rfl, HO⟩
      · go_simp
        refine hK _ _ ?_
        clear hK K
        have C1 := hidS (C0.out.since (one_below x0 (svb 0 (.slice none 0 0) (.slice none 0 0))))
        have F4_1 := hidS (show Blk W x0.heap.size (svb 0 (.slice none 0 0) (.slice none 0 0)) (x0.alloc (svb 0 (.slice none 0 0) (.slice none 0 0))) from ⟨Q.blk_new _ _, Q.blk_lt C0.out.b2⟩)
        clear C0
        generalize x0.alloc (.cells #[.int .i64 0, .slice none 0 0, .slice none 0 0] 83) = x1 at C1 F4_1 ⊢
        generalize x0.heap.size = p4 at F4_1 ⊢
        clear x0
        refine wpAny_ready (rs := [2, 10]) (by kernel_rfl) (by simp) ?_
        refine AllReady.cons rfl (fun K hK => ?_) (AllReady.cons rfl (fun K hK => ?_) AllReady.nil)
        · go_simp
          refine (drawOp_any B R _ C1.out.rd).mono ?_
          rintro e x2 ⟨k0, m0, rfl, hR0, hg0⟩
          have C2 := hidS (C1.out.read hR0 hg0)
          have F4_2 := hidS (F4_1.out.read hg0 C1.out.rLt)
          clear hR0 hg0 C1 F4_1
          refine hK _ _ ?_
          clear hK K
          refine wpAny_ready (rs := [3, 10]) (by kernel_rfl) (by simp) ?_
          refine AllReady.cons rfl (fun K hK => ?_) (AllReady.cons rfl (fun K hK => ?_) AllReady.nil)
          · go_simp
            refine (specDone_any ep k0 m0 C2.out.i C2.out.s).mono ?_
            rintro e x3 ⟨ep1, X1, Y1, vs1, ss1, re, v1, wl, u1, ks1, code, rfl, hz1, hi1, hs1, hz2, hw1, hwl, hz3, hz4, hb1, hz5⟩
            have C3 := hidS (C2.out.since hb1)
            have F4_3 := hidS (F4_2.out.since hb1)
            have V3 := hidS (wlow hw1 C2.out.gr.size)
            obtain ⟨a1, n1, k1, rfl⟩ := iform hi1
            obtain ⟨a2, n2, k2, rfl⟩ := sform hs1
            obtain ⟨a3, n3, k3, rfl⟩ := wform hw1
            clear hz1 hz2 hz3 hz4 hz5 hi1 hs1 hw1 hb1 C2 F4_2
            refine hK _ _ ?_
            clear hK K
            refine wpAny_take (i := 4) (v := .tuple #[svv ep1 (.slice a1 n1 k1) (.slice a2 n2 k2), rvD re (.slice a3 n3 k3), u1, .int .i64 code]) rfl (by kernel_rfl) (by kernel_rfl) (by kernel_rfl) (fun _ _ _ h => h) (Or.inl ⟨by rfl, fun w => by go_simp⟩) ?_
            refine wpAny_take (i := 5) (v := svv ep1 (.slice a1 n1 k1) (.slice a2 n2 k2)) rfl (by kernel_rfl) (by kernel_rfl) (by kernel_rfl) (fun _ _ _ h => h) (Or.inl ⟨by rfl, fun w => by go_simp⟩) ?_
            refine wpAny_take (i := 6) (v := rvD re (.slice a3 n3 k3)) rfl (by kernel_rfl) (by kernel_rfl) (by kernel_rfl) (fun _ _ _ h => h) (Or.inl ⟨by rfl, fun w => by go_simp⟩) ?_
            refine wpAny_take (i := 7) (v := u1) rfl (by kernel_rfl) (by kernel_rfl) (by kernel_rfl) (fun _ _ _ h => h) (Or.inl ⟨by rfl, fun w => by go_simp⟩) ?_
            refine wpAny_take (i := 8) (v := .int .i64 code) rfl (by kernel_rfl) (by kernel_rfl) (by kernel_rfl) (fun _ _ _ h => h) (Or.inl ⟨by rfl, fun w => by go_simp⟩) ?_
            refine wpAny_ready (rs := [10]) (by kernel_rfl) (by simp) ?_
            refine AllReady.cons rfl (fun K hK => ?_) AllReady.nil
            · go_simp
              refine hK _ _ ?_
              clear hK K
              have C4 := hidS (C3.out.since (one_below x3 (rbD 0 (.slice none 0 0))))
              have F5_4 := hidS (show Blk W x3.heap.size (rbD 0 (.slice none 0 0)) (x3.alloc (rbD 0 (.slice none 0 0))) from ⟨Q.blk_new _ _, Q.blk_lt C3.out.b2⟩)
              have F4_4 := hidS (F4_3.out.since (one_below x3 (rbD 0 (.slice none 0 0))))
              have V4 := hidS (wsince V3.out (one_below x3 (rbD 0 (.slice none 0 0))))
              clear C3 F4_3 V3
              generalize x3.alloc (.cells #[.int .i64 0, .slice none 0 0] 32) = x4 at C4 F5_4 F4_4 V4 ⊢
              generalize x3.heap.size = p5 at F5_4 ⊢
              clear x3
              obtain ⟨y, hy, b5, HO⟩ := stores (re := re) (e0 := ep1) (a0 := .slice a1 n1 k1) (b0 := .slice a2 n2 k2) C4.out F4_4.out F5_4.out V4.out hwl
              have HO := hidS HO
              have HB5 := hidS b5
              obtain ⟨⟨t0, t1, t2⟩, t3, t4, t5⟩ := box3 F4_4.out.1
              clear b5 V4 F5_4 C4 F4_4
              refine wpAny_ready (rs := [11]) (by kernel_rfl) (by simp) ?_
              refine AllReady.cons rfl (fun K hK => ?_) AllReady.nil
              go_simp
              refine hK _ _ ?_
              clear hK K t0 t1 t2 t3 t4 t5
              rw [← hy]
              clear hy
              obtain ⟨⟨t0, t1⟩, t3, t4⟩ := box2K HB5.out
              refine wpAny_ready (rs := [12]) (by kernel_rfl) (by simp) ?_
              refine AllReady.cons rfl (fun K hK => ?_) AllReady.nil
              go_simp
              refine hK _ _ ?_
              clear hK K t0 t1 t3 t4
              refine wpAny_ready (rs := [13]) (by kernel_rfl) (by simp) ?_
              refine AllReady.cons rfl (fun K hK => ?_) AllReady.nil
              go_simp
              refine hK _ _ ?_
              clear hK K
              refine wpAny_ready (rs := [14]) (by kernel_rfl) (by simp) ?_
              refine AllReady.cons rfl (fun K hK => ?_) AllReady.nil
              go_simp
              refine hK _ _ ?_
              clear hK K
              refine wpAny_done (by kernel_rfl) ?_ _
              go_wp2_with fail
              go_meet
              exact ⟨_, re, _, wl, code, rfl, rfl, HO⟩
          · go_simp
            refine hK _ _ ?_
            clear hK K
            have C3 := hidS (C2.out.since (one_below x2 (rbD 0 (.slice none 0 0))))
            have F5_3 := hidS (show Blk W x2.heap.size (rbD 0 (.slice none 0 0)) (x2.alloc (rbD 0 (.slice none 0 0))) from ⟨Q.blk_new _ _, Q.blk_lt C2.out.b2⟩)
            have F4_3 := hidS (F4_2.out.since (one_below x2 (rbD 0 (.slice none 0 0))))
            clear C2 F4_2
            generalize x2.alloc (.cells #[.int .i64 0, .slice none 0 0] 32) = x3 at C3 F5_3 F4_3 ⊢
            generalize x2.heap.size = p5 at F5_3 ⊢
            clear x2
            refine wpAny_ready (rs := [3]) (by kernel_rfl) (by simp) ?_
            refine AllReady.cons rfl (fun K hK => ?_) AllReady.nil
            · go_simp
              refine (specDone_any ep k0 m0 C3.out.i C3.out.s).mono ?_
              rintro e x4 ⟨ep1, X1, Y1, vs1, ss1, re, v1, wl, u1, ks1, code, rfl, hz1, hi1, hs1, hz2, hw1, hwl, hz3, hz4, hb1, hz5⟩
              have C4 := hidS (C3.out.since hb1)
              have F4_4 := hidS (F4_3.out.since hb1)
              have F5_4 := hidS (F5_3.out.since hb1)
              have V4 := hidS (wlow hw1 C3.out.gr.size)
              obtain ⟨a1, n1, k1, rfl⟩ := iform hi1
              obtain ⟨a2, n2, k2, rfl⟩ := sform hs1
              obtain ⟨a3, n3, k3, rfl⟩ := wform hw1
              clear hz1 hz2 hz3 hz4 hz5 hi1 hs1 hw1 hb1 C3 F4_3 F5_3
              refine hK _ _ ?_
              clear hK K
              refine wpAny_take (i := 4) (v := .tuple #[svv ep1 (.slice a1 n1 k1) (.slice a2 n2 k2), rvD re (.slice a3 n3 k3), u1, .int .i64 code]) rfl (by kernel_rfl) (by kernel_rfl) (by kernel_rfl) (fun _ _ _ h => h) (Or.inl ⟨by rfl, fun w => by go_simp⟩) ?_
              refine wpAny_take (i := 5) (v := svv ep1 (.slice a1 n1 k1) (.slice a2 n2 k2)) rfl (by kernel_rfl) (by kernel_rfl) (by kernel_rfl) (fun _ _ _ h => h) (Or.inl ⟨by rfl, fun w => by go_simp⟩) ?_
              refine wpAny_take (i := 6) (v := rvD re (.slice a3 n3 k3)) rfl (by kernel_rfl) (by kernel_rfl) (by kernel_rfl) (fun _ _ _ h => h) (Or.inl ⟨by rfl, fun w => by go_simp⟩) ?_
              refine wpAny_take (i := 7) (v := u1) rfl (by kernel_rfl) (by kernel_rfl) (by kernel_rfl) (fun _ _ _ h => h) (Or.inl ⟨by rfl, fun w => by go_simp⟩) ?_
              refine wpAny_take (i := 8) (v := .int .i64 code) rfl (by kernel_rfl) (by kernel_rfl) (by kernel_rfl) (fun _ _ _ h => h) (Or.inl ⟨by rfl, fun w => by go_simp⟩) ?_
              obtain ⟨y, hy, b5, HO⟩ := stores (re := re) (e0 := ep1) (a0 := .slice a1 n1 k1) (b0 := .slice a2 n2 k2) C4.out F4_4.out F5_4.out V4.out hwl
              have HO := hidS HO
              have HB5 := hidS b5
              obtain ⟨⟨t0, t1, t2⟩, t3, t4, t5⟩ := box3 F4_4.out.1
              clear b5 V4 F5_4 C4 F4_4
              refine wpAny_ready (rs := [11]) (by kernel_rfl) (by simp) ?_
              refine AllReady.cons rfl (fun K hK => ?_) AllReady.nil
              go_simp
              refine hK _ _ ?_
              clear hK K t0 t1 t2 t3 t4 t5
              rw [← hy]
              clear hy
              obtain ⟨⟨t0, t1⟩, t3, t4⟩ := box2K HB5.out
              refine wpAny_ready (rs := [12]) (by kernel_rfl) (by simp) ?_
              refine AllReady.cons rfl (fun K hK => ?_) AllReady.nil
              go_simp
              refine hK _ _ ?_
              clear hK K t0 t1 t3 t4
              refine wpAny_ready (rs := [13]) (by kernel_rfl) (by simp) ?_
              refine AllReady.cons rfl (fun K hK => ?_) AllReady.nil
              go_simp
              refine hK _ _ ?_
              clear hK K
              refine wpAny_ready (rs := [14]) (by kernel_rfl) (by simp) ?_
              refine AllReady.cons rfl (fun K hK => ?_) AllReady.nil
              go_simp
              refine hK _ _ ?_
              clear hK K
              refine wpAny_done (by kernel_rfl) ?_ _
              go_wp2_with fail
              go_meet
              exact ⟨_, re, _, wl, code, rfl, rfl, HO⟩
        · go_simp
          refine hK _ _ ?_
          clear hK K
          have C2 := hidS (C1.out.since (one_below x1 (rbD 0 (.slice none 0 0))))
          have F5_2 := hidS (show Blk W x1.heap.size (rbD 0 (.slice none 0 0)) (x1.alloc (rbD 0 (.slice none 0 0))) from ⟨Q.blk_new _ _, Q.blk_lt C1.out.b2⟩)
          have F4_2 := hidS (F4_1.out.since (one_below x1 (rbD 0 (.slice none 0 0))))
          clear C1 F4_1
          generalize x1.alloc (.cells #[.int .i64 0, .slice none 0 0] 32) = x2 at C2 F5_2 F4_2 ⊢
          generalize x1.heap.size = p5 at F5_2 ⊢
          clear x1
          refine wpAny_ready (rs := [2]) (by kernel_rfl) (by simp) ?_
          refine AllReady.cons rfl (fun K hK => ?_) AllReady.nil
          · go_simp
            refine (drawOp_any B R _ C2.out.rd).mono ?_
            rintro e x3 ⟨k0, m0, rfl, hR0, hg0⟩
            have C3 := hidS (C2.out.read hR0 hg0)
            have F4_3 := hidS (F4_2.out.read hg0 C2.out.rLt)
            have F5_3 := hidS (F5_2.out.read hg0 C2.out.rLt)
            clear hR0 hg0 C2 F4_2 F5_2
            refine hK _ _ ?_
            clear hK K
            refine wpAny_ready (rs := [3]) (by kernel_rfl) (by simp) ?_
            refine AllReady.cons rfl (fun K hK => ?_) AllReady.nil
            · go_simp
              refine (specDone_any ep k0 m0 C3.out.i C3.out.s).mono ?_
              rintro e x4 ⟨ep1, X1, Y1, vs1, ss1, re, v1, wl, u1, ks1, code, rfl, hz1, hi1, hs1, hz2, hw1, hwl, hz3, hz4, hb1, hz5⟩
              have C4 := hidS (C3.out.since hb1)
              have F4_4 := hidS (F4_3.out.since hb1)
              have F5_4 := hidS (F5_3.out.since hb1)
              have V4 := hidS (wlow hw1 C3.out.gr.size)
              obtain ⟨a1, n1, k1, rfl⟩ := iform hi1
              obtain ⟨a2, n2, k2, rfl⟩ := sform hs1
              obtain ⟨a3, n3, k3, rfl⟩ := wform hw1
              clear hz1 hz2 hz3 hz4 hz5 hi1 hs1 hw1 hb1 C3 F4_3 F5_3
              refine hK _ _ ?_
              clear hK K
              refine wpAny_take (i := 4) (v := .tuple #[svv ep1 (.slice a1 n1 k1) (.slice a2 n2 k2), rvD re (.slice a3 n3 k3), u1, .int .i64 code]) rfl (by kernel_rfl) (by kernel_rfl) (by kernel_rfl) (fun _ _ _ h => h) (Or.inl ⟨by rfl, fun w => by go_simp⟩) ?_
              refine wpAny_take (i := 5) (v := svv ep1 (.slice a1 n1 k1) (.slice a2 n2 k2)) rfl (by kernel_rfl) (by kernel_rfl) (by kernel_rfl) (fun _ _ _ h => h) (Or.inl ⟨by rfl, fun w => by go_simp⟩) ?_
              refine wpAny_take (i := 6) (v := rvD re (.slice a3 n3 k3)) rfl (by kernel_rfl) (by kernel_rfl) (by kernel_rfl) (fun _ _ _ h => h) (Or.inl ⟨by rfl, fun w => by go_simp⟩) ?_
              refine wpAny_take (i := 7) (v := u1) rfl (by kernel_rfl) (by kernel_rfl) (by kernel_rfl) (fun _ _ _ h => h) (Or.inl ⟨by rfl, fun w => by go_simp⟩) ?_
              refine wpAny_take (i := 8) (v := .int .i64 code) rfl (by kernel_rfl) (by kernel_rfl) (by kernel_rfl) (fun _ _ _ h => h) (Or.inl ⟨by rfl, fun w => by go_simp⟩) ?_
              obtain ⟨y, hy, b5, HO⟩ := stores (re := re) (e0 := ep1) (a0 := .slice a1 n1 k1) (b0 := .slice a2 n2 k2) C4.out F4_4.out F5_4.out V4.out hwl
              have HO := hidS HO
              have HB5 := hidS b5
              obtain ⟨⟨t0, t1, t2⟩, t3, t4, t5⟩ := box3 F4_4.out.1
              clear b5 V4 F5_4 C4 F4_4
              refine wpAny_ready (rs := [11]) (by kernel_rfl) (by simp) ?_
              refine AllReady.cons rfl (fun K hK => ?_) AllReady.nil
              go_simp
              refine hK _ _ ?_
              clear hK K t0 t1 t2 t3 t4 t5
              rw [← hy]
              clear hy
              obtain ⟨⟨t0, t1⟩, t3, t4⟩ := box2K HB5.out
              refine wpAny_ready (rs := [12]) (by kernel_rfl) (by simp) ?_
              refine AllReady.cons rfl (fun K hK => ?_) AllReady.nil
              go_simp
              refine hK _ _ ?_
              clear hK K t0 t1 t3 t4
              refine wpAny_ready (rs := [13]) (by kernel_rfl) (by simp) ?_
              refine AllReady.cons rfl (fun K hK => ?_) AllReady.nil
              go_simp
              refine hK _ _ ?_
              clear hK K
              refine wpAny_ready (rs := [14]) (by kernel_rfl) (by simp) ?_
              refine AllReady.cons rfl (fun K hK => ?_) AllReady.nil
              go_simp
              refine hK _ _ ?_
              clear hK K
              refine wpAny_done (by kernel_rfl) ?_ _
              go_wp2_with fail
              go_meet
              exact ⟨_, re, _, wl, code, rfl, rfl, HO⟩
      · go_simp
        refine hK _ _ ?_
        clear hK K
        have C1 := hidS (C0.out.since (one_below x0 (rbD 0 (.slice none 0 0))))
        have F5_1 := hidS (show Blk W x0.heap.size (rbD 0 (.slice none 0 0)) (x0.alloc (rbD 0 (.slice none 0 0))) from ⟨Q.blk_new _ _, Q.blk_lt C0.out.b2⟩)
        clear C0
        generalize x0.alloc (.cells #[.int .i64 0, .slice none 0 0] 32) = x1 at C1 F5_1 ⊢
        generalize x0.heap.size = p5 at F5_1 ⊢
        clear x0
        refine wpAny_ready (rs := [2, 9]) (by kernel_rfl) (by simp) ?_
        refine AllReady.cons rfl (fun K hK => ?_) (AllReady.cons rfl (fun K hK => ?_) AllReady.nil)
        · go_simp
          refine (drawOp_any B R _ C1.out.rd).mono ?_
          rintro e x2 ⟨k0, m0, rfl, hR0, hg0⟩
          have C2 := hidS (C1.out.read hR0 hg0)
          have F5_2 := hidS (F5_1.out.read hg0 C1.out.rLt)
          clear hR0 hg0 C1 F5_1
          refine hK _ _ ?_
          clear hK K
          refine wpAny_ready (rs := [3, 9]) (by kernel_rfl) (by simp) ?_
          refine AllReady.cons rfl (fun K hK => ?_) (AllReady.cons rfl (fun K hK => ?_) AllReady.nil)
          · go_simp
            refine (specDone_any ep k0 m0 C2.out.i C2.out.s).mono ?_
            rintro e x3 ⟨ep1, X1, Y1, vs1, ss1, re, v1, wl, u1, ks1, code, rfl, hz1, hi1, hs1, hz2, hw1, hwl, hz3, hz4, hb1, hz5⟩
            have C3 := hidS (C2.out.since hb1)
            have F5_3 := hidS (F5_2.out.since hb1)
            have V3 := hidS (wlow hw1 C2.out.gr.size)
            obtain ⟨a1, n1, k1, rfl⟩ := iform hi1
            obtain ⟨a2, n2, k2, rfl⟩ := sform hs1
            obtain ⟨a3, n3, k3, rfl⟩ := wform hw1
            clear hz1 hz2 hz3 hz4 hz5 hi1 hs1 hw1 hb1 C2 F5_2
            refine hK _ _ ?_
            clear hK K
            refine wpAny_take (i := 4) (v := .tuple #[svv ep1 (.slice a1 n1 k1) (.slice a2 n2 k2), rvD re (.slice a3 n3 k3), u1, .int .i64 code]) rfl (by kernel_rfl) (by kernel_rfl) (by kernel_rfl) (fun _ _ _ h => h) (Or.inl ⟨by rfl, fun w => by go_simp⟩) ?_
            refine wpAny_take (i := 5) (v := svv ep1 (.slice a1 n1 k1) (.slice a2 n2 k2)) rfl (by kernel_rfl) (by kernel_rfl) (by kernel_rfl) (fun _ _ _ h => h) (Or.inl ⟨by rfl, fun w => by go_simp⟩) ?_
            refine wpAny_take (i := 6) (v := rvD re (.slice a3 n3 k3)) rfl (by kernel_rfl) (by kernel_rfl) (by kernel_rfl) (fun _ _ _ h => h) (Or.inl ⟨by rfl, fun w => by go_simp⟩) ?_
            refine wpAny_take (i := 7) (v := u1) rfl (by kernel_rfl) (by kernel_rfl) (by kernel_rfl) (fun _ _ _ h => h) (Or.inl ⟨by rfl, fun w => by go_simp⟩) ?_
            refine wpAny_take (i := 8) (v := .int .i64 code) rfl (by kernel_rfl) (by kernel_rfl) (by kernel_rfl) (fun _ _ _ h => h) (Or.inl ⟨by rfl, fun w => by go_simp⟩) ?_
            refine wpAny_ready (rs := [9]) (by kernel_rfl) (by simp) ?_
            refine AllReady.cons rfl (fun K hK => ?_) AllReady.nil
            · go_simp
              refine hK _ _ ?_
              clear hK K
              have C4 := hidS (C3.out.since (one_below x3 (svb 0 (.slice none 0 0) (.slice none 0 0))))
              have F4_4 := hidS (show Blk W x3.heap.size (svb 0 (.slice none 0 0) (.slice none 0 0)) (x3.alloc (svb 0 (.slice none 0 0) (.slice none 0 0))) from ⟨Q.blk_new _ _, Q.blk_lt C3.out.b2⟩)
              have F5_4 := hidS (F5_3.out.since (one_below x3 (svb 0 (.slice none 0 0) (.slice none 0 0))))
              have V4 := hidS (wsince V3.out (one_below x3 (svb 0 (.slice none 0 0) (.slice none 0 0))))
              clear C3 F5_3 V3
              generalize x3.alloc (.cells #[.int .i64 0, .slice none 0 0, .slice none 0 0] 83) = x4 at C4 F4_4 F5_4 V4 ⊢
              generalize x3.heap.size = p4 at F4_4 ⊢
              clear x3
              obtain ⟨y, hy, b5, HO⟩ := stores (re := re) (e0 := ep1) (a0 := .slice a1 n1 k1) (b0 := .slice a2 n2 k2) C4.out F4_4.out F5_4.out V4.out hwl
              have HO := hidS HO
              have HB5 := hidS b5
              obtain ⟨⟨t0, t1, t2⟩, t3, t4, t5⟩ := box3 F4_4.out.1
              clear b5 V4 F5_4 C4 F4_4
              refine wpAny_ready (rs := [11]) (by kernel_rfl) (by simp) ?_
              refine AllReady.cons rfl (fun K hK => ?_) AllReady.nil
              go_simp
              refine hK _ _ ?_
              clear hK K t0 t1 t2 t3 t4 t5
              rw [← hy]
              clear hy
              obtain ⟨⟨t0, t1⟩, t3, t4⟩ := box2K HB5.out
              refine wpAny_ready (rs := [12]) (by kernel_rfl) (by simp) ?_
              refine AllReady.cons rfl (fun K hK => ?_) AllReady.nil
              go_simp
              refine hK _ _ ?_
              clear hK K t0 t1 t3 t4
              refine wpAny_ready (rs := [13]) (by kernel_rfl) (by simp) ?_
              refine AllReady.cons rfl (fun K hK => ?_) AllReady.nil
              go_simp
              refine hK _ _ ?_
              clear hK K
              refine wpAny_ready (rs := [14]) (by kernel_rfl) (by simp) ?_
              refine AllReady.cons rfl (fun K hK => ?_) AllReady.nil
              go_simp
              refine hK _ _ ?_
              clear hK K
              refine wpAny_done (by kernel_rfl) ?_ _
              go_wp2_with fail
              go_meet
              exact ⟨_, re, _, wl, code, rfl, rfl, HO⟩
          · go_simp
            refine hK _ _ ?_
            clear hK K
            have C3 := hidS (C2.out.since (one_below x2 (svb 0 (.slice none 0 0) (.slice none 0 0))))
            have F4_3 := hidS (show Blk W x2.heap.size (svb 0 (.slice none 0 0) (.slice none 0 0)) (x2.alloc (svb 0 (.slice none 0 0) (.slice none 0 0))) from ⟨Q.blk_new _ _, Q.blk_lt C2.out.b2⟩)
            have F5_3 := hidS (F5_2.out.since (one_below x2 (svb 0 (.slice none 0 0) (.slice none 0 0))))
            clear C2 F5_2
            generalize x2.alloc (.cells #[.int .i64 0, .slice none 0 0, .slice none 0 0] 83) = x3 at C3 F4_3 F5_3 ⊢
            generalize x2.heap.size = p4 at F4_3 ⊢
            clear x2
            refine wpAny_ready (rs := [3]) (by kernel_rfl) (by simp) ?_
            refine AllReady.cons rfl (fun K hK => ?_) AllReady.nil
            · go_simp
              refine (specDone_any ep k0 m0 C3.out.i C3.out.s).mono ?_
              rintro e x4 ⟨ep1, X1, Y1, vs1, ss1, re, v1, wl, u1, ks1, code, rfl, hz1, hi1, hs1, hz2, hw1, hwl, hz3, hz4, hb1, hz5⟩
              have C4 := hidS (C3.out.since hb1)
              have F4_4 := hidS (F4_3.out.since hb1)
              have F5_4 := hidS (F5_3.out.since hb1)
              have V4 := hidS (wlow hw1 C3.out.gr.size)
              obtain ⟨a1, n1, k1, rfl⟩ := iform hi1
              obtain ⟨a2, n2, k2, rfl⟩ := sform hs1
              obtain ⟨a3, n3, k3, rfl⟩ := wform hw1
              clear hz1 hz2 hz3 hz4 hz5 hi1 hs1 hw1 hb1 C3 F4_3 F5_3
              refine hK _ _ ?_
              clear hK K
              refine wpAny_take (i := 4) (v := .tuple #[svv ep1 (.slice a1 n1 k1) (.slice a2 n2 k2), rvD re (.slice a3 n3 k3), u1, .int .i64 code]) rfl (by kernel_rfl) (by kernel_rfl) (by kernel_rfl) (fun _ _ _ h => h) (Or.inl ⟨by rfl, fun w => by go_simp⟩) ?_
              refine wpAny_take (i := 5) (v := svv ep1 (.slice a1 n1 k1) (.slice a2 n2 k2)) rfl (by kernel_rfl) (by kernel_rfl) (by kernel_rfl) (fun _ _ _ h => h) (Or.inl ⟨by rfl, fun w => by go_simp⟩) ?_
              refine wpAny_take (i := 6) (v := rvD re (.slice a3 n3 k3)) rfl (by kernel_rfl) (by kernel_rfl) (by kernel_rfl) (fun _ _ _ h => h) (Or.inl ⟨by rfl, fun w => by go_simp⟩) ?_
              refine wpAny_take (i := 7) (v := u1) rfl (by kernel_rfl) (by kernel_rfl) (by kernel_rfl) (fun _ _ _ h => h) (Or.inl ⟨by rfl, fun w => by go_simp⟩) ?_
              refine wpAny_take (i := 8) (v := .int .i64 code) rfl (by kernel_rfl) (by kernel_rfl) (by kernel_rfl) (fun _ _ _ h => h) (Or.inl ⟨by rfl, fun w => by go_simp⟩) ?_
              obtain ⟨y, hy, b5, HO⟩ := stores (re := re) (e0 := ep1) (a0 := .slice a1 n1 k1) (b0 := .slice a2 n2 k2) C4.out F4_4.out F5_4.out V4.out hwl
              have HO := hidS HO
              have HB5 := hidS b5
              obtain ⟨⟨t0, t1, t2⟩, t3, t4, t5⟩ := box3 F4_4.out.1
              clear b5 V4 F5_4 C4 F4_4
              refine wpAny_ready (rs := [11]) (by kernel_rfl) (by simp) ?_
              refine AllReady.cons rfl (fun K hK => ?_) AllReady.nil
              go_simp
              refine hK _ _ ?_
              clear hK K t0 t1 t2 t3 t4 t5
              rw [← hy]
              clear hy
              obtain ⟨⟨t0, t1⟩, t3, t4⟩ := box2K HB5.out
              refine wpAny_ready (rs := [12]) (by kernel_rfl) (by simp) ?_
              refine AllReady.cons rfl (fun K hK => ?_) AllReady.nil
              go_simp
              refine hK _ _ ?_
              clear hK K t0 t1 t3 t4
              refine wpAny_ready (rs := [13]) (by kernel_rfl) (by simp) ?_
              refine AllReady.cons rfl (fun K hK => ?_) AllReady.nil
              go_simp
              refine hK _ _ ?_
              clear hK K
              refine wpAny_ready (rs := [14]) (by kernel_rfl) (by simp) ?_
              refine AllReady.cons rfl (fun K hK => ?_) AllReady.nil
              go_simp
              refine hK _ _ ?_
              clear hK K
              refine wpAny_done (by kernel_rfl) ?_ _
              go_wp2_with fail
              go_meet
              exact ⟨_, re, _, wl, code, rfl, rfl, HO⟩
        · go_simp
          refine hK _ _ ?_
          clear hK K
          have C2 := hidS (C1.out.since (one_below x1 (svb 0 (.slice none 0 0) (.slice none 0 0))))
          have F4_2 := hidS (show Blk W x1.heap.size (svb 0 (.slice none 0 0) (.slice none 0 0)) (x1.alloc (svb 0 (.slice none 0 0) (.slice none 0 0))) from ⟨Q.blk_new _ _, Q.blk_lt C1.out.b2⟩)
          have F5_2 := hidS (F5_1.out.since (one_below x1 (svb 0 (.slice none 0 0) (.slice none 0 0))))
          clear C1 F5_1
          generalize x1.alloc (.cells #[.int .i64 0, .slice none 0 0, .slice none 0 0] 83) = x2 at C2 F4_2 F5_2 ⊢
          generalize x1.heap.size = p4 at F4_2 ⊢
          clear x1
          refine wpAny_ready (rs := [2]) (by kernel_rfl) (by simp) ?_
          refine AllReady.cons rfl (fun K hK => ?_) AllReady.nil
          · go_simp
            refine (drawOp_any B R _ C2.out.rd).mono ?_
            rintro e x3 ⟨k0, m0, rfl, hR0, hg0⟩
            have C3 := hidS (C2.out.read hR0 hg0)
            have F4_3 := hidS (F4_2.out.read hg0 C2.out.rLt)
            have F5_3 := hidS (F5_2.out.read hg0 C2.out.rLt)
            clear hR0 hg0 C2 F4_2 F5_2
            refine hK _ _ ?_
            clear hK K
            refine wpAny_ready (rs := [3]) (by kernel_rfl) (by simp) ?_
            refine AllReady.cons rfl (fun K hK => ?_) AllReady.nil
            · go_simp
              refine (specDone_any ep k0 m0 C3.out.i C3.out.s).mono ?_
              rintro e x4 ⟨ep1, X1, Y1, vs1, ss1, re, v1, wl, u1, ks1, code, rfl, hz1, hi1, hs1, hz2, hw1, hwl, hz3, hz4, hb1, hz5⟩
              have C4 := hidS (C3.out.since hb1)
              have F4_4 := hidS (F4_3.out.since hb1)
              have F5_4 := hidS (F5_3.out.since hb1)
              have V4 := hidS (wlow hw1 C3.out.gr.size)
              obtain ⟨a1, n1, k1, rfl⟩ := iform hi1
              obtain ⟨a2, n2, k2, rfl⟩ := sform hs1
              obtain ⟨a3, n3, k3, rfl⟩ := wform hw1
              clear hz1 hz2 hz3 hz4 hz5 hi1 hs1 hw1 hb1 C3 F4_3 F5_3
              refine hK _ _ ?_
              clear hK K
              refine wpAny_take (i := 4) (v := .tuple #[svv ep1 (.slice a1 n1 k1) (.slice a2 n2 k2), rvD re (.slice a3 n3 k3), u1, .int .i64 code]) rfl (by kernel_rfl) (by kernel_rfl) (by kernel_rfl) (fun _ _ _ h => h) (Or.inl ⟨by rfl, fun w => by go_simp⟩) ?_
              refine wpAny_take (i := 5) (v := svv ep1 (.slice a1 n1 k1) (.slice a2 n2 k2)) rfl (by kernel_rfl) (by kernel_rfl) (by kernel_rfl) (fun _ _ _ h => h) (Or.inl ⟨by rfl, fun w => by go_simp⟩) ?_
              refine wpAny_take (i := 6) (v := rvD re (.slice a3 n3 k3)) rfl (by kernel_rfl) (by kernel_rfl) (by kernel_rfl) (fun _ _ _ h => h) (Or.inl ⟨by rfl, fun w => by go_simp⟩) ?_
              refine wpAny_take (i := 7) (v := u1) rfl (by kernel_rfl) (by kernel_rfl) (by kernel_rfl) (fun _ _ _ h => h) (Or.inl ⟨by rfl, fun w => by go_simp⟩) ?_
              refine wpAny_take (i := 8) (v := .int .i64 code) rfl (by kernel_rfl) (by kernel_rfl) (by kernel_rfl) (fun _ _ _ h => h) (Or.inl ⟨by rfl, fun w => by go_simp⟩) ?_
              obtain ⟨y, hy, b5, HO⟩ := stores (re := re) (e0 := ep1) (a0 := .slice a1 n1 k1) (b0 := .slice a2 n2 k2) C4.out F4_4.out F5_4.out V4.out hwl
              have HO := hidS HO
              have HB5 := hidS b5
              obtain ⟨⟨t0, t1, t2⟩, t3, t4, t5⟩ := box3 F4_4.out.1
              clear b5 V4 F5_4 C4 F4_4
              refine wpAny_ready (rs := [11]) (by kernel_rfl) (by simp) ?_
              refine AllReady.cons rfl (fun K hK => ?_) AllReady.nil
              go_simp
              refine hK _ _ ?_
              clear hK K t0 t1 t2 t3 t4 t5
              rw [← hy]
              clear hy
              obtain ⟨⟨t0, t1⟩, t3, t4⟩ := box2K HB5.out
              refine wpAny_ready (rs := [12]) (by kernel_rfl) (by simp) ?_
              refine AllReady.cons rfl (fun K hK => ?_) AllReady.nil
              go_simp
              refine hK _ _ ?_
              clear hK K t0 t1 t3 t4
              refine wpAny_ready (rs := [13]) (by kernel_rfl) (by simp) ?_
              refine AllReady.cons rfl (fun K hK => ?_) AllReady.nil
              go_simp
              refine hK _ _ ?_
              clear hK K
              refine wpAny_ready (rs := [14]) (by kernel_rfl) (by simp) ?_
              refine AllReady.cons rfl (fun K hK => ?_) AllReady.nil
              go_simp
              refine hK _ _ ?_
              clear hK K
              refine wpAny_done (by kernel_rfl) ?_ _
              go_wp2_with fail
              go_meet
              exact ⟨_, re, _, wl, code, rfl, rfl, HO⟩
    · go_simp
      refine (drawOp_any B R _ C0.out.rd).mono ?_
      rintro e x1 ⟨k0, m0, rfl, hR0, hg0⟩
      have C1 := hidS (C0.out.read hR0 hg0)
      clear hR0 hg0 C0
      refine hK _ _ ?_
      clear hK K
      refine wpAny_ready (rs := [0, 9, 10]) (by kernel_rfl) (by simp) ?_
      refine AllReady.cons rfl (fun K hK => ?_) (AllReady.cons rfl (fun K hK => ?_) (AllReady.cons rfl (fun K hK => ?_) AllReady.nil))
      · obtain ⟨⟨o0, o1, o2⟩, o3, o4, o5⟩ := box3 C1.out.b3
        go_simp
        refine hK _ _ ?_
        clear hK K o0 o1 o2 o3 o4 o5
        refine wpAny_ready (rs := [3, 9, 10]) (by kernel_rfl) (by simp) ?_
        refine AllReady.cons rfl (fun K hK => ?_) (AllReady.cons rfl (fun K hK => ?_) (AllReady.cons rfl (fun K hK => ?_) AllReady.nil))
        · go_simp
          refine (specDone_any ep k0 m0 C1.out.i C1.out.s).mono ?_
          rintro e x2 ⟨ep1, X1, Y1, vs1, ss1, re, v1, wl, u1, ks1, code, rfl, hz1, hi1, hs1, hz2, hw1, hwl, hz3, hz4, hb1, hz5⟩
          have C2 := hidS (C1.out.since hb1)
          have V2 := hidS (wlow hw1 C1.out.gr.size)
          obtain ⟨a1, n1, k1, rfl⟩ := iform hi1
          obtain ⟨a2, n2, k2, rfl⟩ := sform hs1
          obtain ⟨a3, n3, k3, rfl⟩ := wform hw1
          clear hz1 hz2 hz3 hz4 hz5 hi1 hs1 hw1 hb1 C1
          refine hK _ _ ?_
          clear hK K
          refine wpAny_take (i := 4) (v := .tuple #[svv ep1 (.slice a1 n1 k1) (.slice a2 n2 k2), rvD re (.slice a3 n3 k3), u1, .int .i64 code]) rfl (by kernel_rfl) (by kernel_rfl) (by kernel_rfl) (fun _ _ _ h => h) (Or.inl ⟨by rfl, fun w => by go_simp⟩) ?_
          refine wpAny_take (i := 5) (v := svv ep1 (.slice a1 n1 k1) (.slice a2 n2 k2)) rfl (by kernel_rfl) (by kernel_rfl) (by kernel_rfl) (fun _ _ _ h => h) (Or.inl ⟨by rfl, fun w => by go_simp⟩) ?_
          refine wpAny_take (i := 6) (v := rvD re (.slice a3 n3 k3)) rfl (by kernel_rfl) (by kernel_rfl) (by kernel_rfl) (fun _ _ _ h => h) (Or.inl ⟨by rfl, fun w => by go_simp⟩) ?_
          refine wpAny_take (i := 7) (v := u1) rfl (by kernel_rfl) (by kernel_rfl) (by kernel_rfl) (fun _ _ _ h => h) (Or.inl ⟨by rfl, fun w => by go_simp⟩) ?_
          refine wpAny_take (i := 8) (v := .int .i64 code) rfl (by kernel_rfl) (by kernel_rfl) (by kernel_rfl) (fun _ _ _ h => h) (Or.inl ⟨by rfl, fun w => by go_simp⟩) ?_
          refine wpAny_ready (rs := [9, 10]) (by kernel_rfl) (by simp) ?_
          refine AllReady.cons rfl (fun K hK => ?_) (AllReady.cons rfl (fun K hK => ?_) AllReady.nil)
          · go_simp
            refine hK _ _ ?_
            clear hK K
            have C3 := hidS (C2.out.since (one_below x2 (svb 0 (.slice none 0 0) (.slice none 0 0))))
            have F4_3 := hidS (show Blk W x2.heap.size (svb 0 (.slice none 0 0) (.slice none 0 0)) (x2.alloc (svb 0 (.slice none 0 0) (.slice none 0 0))) from ⟨Q.blk_new _ _, Q.blk_lt C2.out.b2⟩)
            have V3 := hidS (wsince V2.out (one_below x2 (svb 0 (.slice none 0 0) (.slice none 0 0))))
            clear C2 V2
            generalize x2.alloc (.cells #[.int .i64 0, .slice none 0 0, .slice none 0 0] 83) = x3 at C3 F4_3 V3 ⊢
            generalize x2.heap.size = p4 at F4_3 ⊢
            clear x2
            refine wpAny_ready (rs := [10]) (by kernel_rfl) (by simp) ?_
            refine AllReady.cons rfl (fun K hK => ?_) AllReady.nil
            · go_simp
              refine hK _ _ ?_
              clear hK K
              have C4 := hidS (C3.out.since (one_below x3 (rbD 0 (.slice none 0 0))))
              have F5_4 := hidS (show Blk W x3.heap.size (rbD 0 (.slice none 0 0)) (x3.alloc (rbD 0 (.slice none 0 0))) from ⟨Q.blk_new _ _, Q.blk_lt C3.out.b2⟩)
              have F4_4 := hidS (F4_3.out.since (one_below x3 (rbD 0 (.slice none 0 0))))
              have V4 := hidS (wsince V3.out (one_below x3 (rbD 0 (.slice none 0 0))))
              clear C3 F4_3 V3
              generalize x3.alloc (.cells #[.int .i64 0, .slice none 0 0] 32) = x4 at C4 F5_4 F4_4 V4 ⊢
              generalize x3.heap.size = p5 at F5_4 ⊢
              clear x3
              obtain ⟨y, hy, b5, HO⟩ := stores (re := re) (e0 := ep1) (a0 := .slice a1 n1 k1) (b0 := .slice a2 n2 k2) C4.out F4_4.out F5_4.out V4.out hwl
              have HO := hidS HO
              have HB5 := hidS b5
              obtain ⟨⟨t0, t1, t2⟩, t3, t4, t5⟩ := box3 F4_4.out.1
              clear b5 V4 F5_4 C4 F4_4
              refine wpAny_ready (rs := [11]) (by kernel_rfl) (by simp) ?_
              refine AllReady.cons rfl (fun K hK => ?_) AllReady.nil
              go_simp
              refine hK _ _ ?_
              clear hK K t0 t1 t2 t3 t4 t5
              rw [← hy]
              clear hy
              obtain ⟨⟨t0, t1⟩, t3, t4⟩ := box2K HB5.out
              refine wpAny_ready (rs := [12]) (by kernel_rfl) (by simp) ?_
              refine AllReady.cons rfl (fun K hK => ?_) AllReady.nil
              go_simp
              refine hK _ _ ?_
              clear hK K t0 t1 t3 t4
              refine wpAny_ready (rs := [13]) (by kernel_rfl) (by simp) ?_
              refine AllReady.cons rfl (fun K hK => ?_) AllReady.nil
              go_simp
              refine hK _ _ ?_
              clear hK K
              refine wpAny_ready (rs := [14]) (by kernel_rfl) (by simp) ?_
              refine AllReady.cons rfl (fun K hK => ?_) AllReady.nil
              go_simp
              refine hK _ _ ?_
              clear hK K
              refine wpAny_done (by kernel_rfl) ?_ _
              go_wp2_with fail
              go_meet
              exact ⟨_, re, _, wl, code, rfl, rfl, HO⟩
          · go_simp
            refine hK _ _ ?_
            clear hK K
            have C3 := hidS (C2.out.since (one_below x2 (rbD 0 (.slice none 0 0))))
            have F5_3 := hidS (show Blk W x2.heap.size (rbD 0 (.slice none 0 0)) (x2.alloc (rbD 0 (.slice none 0 0))) from ⟨Q.blk_new _ _, Q.blk_lt C2.out.b2⟩)
            have V3 := hidS (wsince V2.out (one_below x2 (rbD 0 (.slice none 0 0))))
            clear C2 V2
            generalize x2.alloc (.cells #[.int .i64 0, .slice none 0 0] 32) = x3 at C3 F5_3 V3 ⊢
            generalize x2.heap.size = p5 at F5_3 ⊢
            clear x2
            refine wpAny_ready (rs := [9]) (by kernel_rfl) (by simp) ?_
            refine AllReady.cons rfl (fun K hK => ?_) AllReady.nil
            · go_simp
              refine hK _ _ ?_
              clear hK K
              have C4 := hidS (C3.out.since (one_below x3 (svb 0 (.slice none 0 0) (.slice none 0 0))))
              have F4_4 := hidS (show Blk W x3.heap.size (svb 0 (.slice none 0 0) (.slice none 0 0)) (x3.alloc (svb 0 (.slice none 0 0) (.slice none 0 0))) from ⟨Q.blk_new _ _, Q.blk_lt C3.out.b2⟩)
              have F5_4 := hidS (F5_3.out.since (one_below x3 (svb 0 (.slice none 0 0) (.slice none 0 0))))
              have V4 := hidS (wsince V3.out (one_below x3 (svb 0 (.slice none 0 0) (.slice none 0 0))))
              clear C3 F5_3 V3
              generalize x3.alloc (.cells #[.int .i64 0, .slice none 0 0, .slice none 0 0] 83) = x4 at C4 F4_4 F5_4 V4 ⊢
              generalize x3.heap.size = p4 at F4_4 ⊢
              clear x3
              obtain ⟨y, hy, b5, HO⟩ := stores (re := re) (e0 := ep1) (a0 := .slice a1 n1 k1) (b0 := .slice a2 n2 k2) C4.out F4_4.out F5_4.out V4.out hwl
              have HO := hidS HO
              have HB5 := hidS b5
              obtain ⟨⟨t0, t1, t2⟩, t3, t4, t5⟩ := box3 F4_4.out.1
              clear b5 V4 F5_4 C4 F4_4
              refine wpAny_ready (rs := [11]) (by kernel_rfl) (by simp) ?_
              refine AllReady.cons rfl (fun K hK => ?_) AllReady.nil
              go_simp
              refine hK _ _ ?_
              clear hK K t0 t1 t2 t3 t4 t5
              rw [← hy]
              clear hy
              obtain ⟨⟨t0, t1⟩, t3, t4⟩ := box2K HB5.out
              refine wpAny_ready (rs := [12]) (by kernel_rfl) (by simp) ?_
              refine AllReady.cons rfl (fun K hK => ?_) AllReady.nil
              go_simp
              refine hK _ _ ?_
              clear hK K t0 t1 t3 t4
              refine wpAny_ready (rs := [13]) (by kernel_rfl) (by simp) ?_
              refine AllReady.cons rfl (fun K hK => ?_) AllReady.nil
              go_simp
              refine hK _ _ ?_
              clear hK K
              refine wpAny_ready (rs := [14]) (by kernel_rfl) (by simp) ?_
              refine AllReady.cons rfl (fun K hK => ?_) AllReady.nil
              go_simp
              refine hK _ _ ?_
              clear hK K
              refine wpAny_done (by kernel_rfl) ?_ _
              go_wp2_with fail
              go_meet
              exact ⟨_, re, _, wl, code, rfl, rfl, HO⟩
        · go_simp
          refine hK _ _ ?_
          clear hK K
          have C2 := hidS (C1.out.since (one_below x1 (svb 0 (.slice none 0 0) (.slice none 0 0))))
          have F4_2 := hidS (show Blk W x1.heap.size (svb 0 (.slice none 0 0) (.slice none 0 0)) (x1.alloc (svb 0 (.slice none 0 0) (.slice none 0 0))) from ⟨Q.blk_new _ _, Q.blk_lt C1.out.b2⟩)
          clear C1
          generalize x1.alloc (.cells #[.int .i64 0, .slice none 0 0, .slice none 0 0] 83) = x2 at C2 F4_2 ⊢
          generalize x1.heap.size = p4 at F4_2 ⊢
          clear x1
          refine wpAny_ready (rs := [3, 10]) (by kernel_rfl) (by simp) ?_
          refine AllReady.cons rfl (fun K hK => ?_) (AllReady.cons rfl (fun K hK => ?_) AllReady.nil)
          · go_simp
            refine (specDone_any ep k0 m0 C2.out.i C2.out.s).mono ?_
            rintro e x3 ⟨ep1, X1, Y1, vs1, ss1, re, v1, wl, u1, ks1, code, rfl, hz1, hi1, hs1, hz2, hw1, hwl, hz3, hz4, hb1, hz5⟩
            have C3 := hidS (C2.out.since hb1)
            have F4_3 := hidS (F4_2.out.since hb1)
            have V3 := hidS (wlow hw1 C2.out.gr.size)
            obtain ⟨a1, n1, k1, rfl⟩ := iform hi1
            obtain ⟨a2, n2, k2, rfl⟩ := sform hs1
            obtain ⟨a3, n3, k3, rfl⟩ := wform hw1
            clear hz1 hz2 hz3 hz4 hz5 hi1 hs1 hw1 hb1 C2 F4_2
            refine hK _ _ ?_
            clear hK K
            refine wpAny_take (i := 4) (v := .tuple #[svv ep1 (.slice a1 n1 k1) (.slice a2 n2 k2), rvD re (.slice a3 n3 k3), u1, .int .i64 code]) rfl (by kernel_rfl) (by kernel_rfl) (by kernel_rfl) (fun _ _ _ h => h) (Or.inl ⟨by rfl, fun w => by go_simp⟩) ?_
            refine wpAny_take (i := 5) (v := svv ep1 (.slice a1 n1 k1) (.slice a2 n2 k2)) rfl (by kernel_rfl) (by kernel_rfl) (by kernel_rfl) (fun _ _ _ h => h) (Or.inl ⟨by rfl, fun w => by go_simp⟩) ?_
            refine wpAny_take (i := 6) (v := rvD re (.slice a3 n3 k3)) rfl (by kernel_rfl) (by kernel_rfl) (by kernel_rfl) (fun _ _ _ h => h) (Or.inl ⟨by rfl, fun w => by go_simp⟩) ?_
            refine wpAny_take (i := 7) (v := u1) rfl (by kernel_rfl) (by kernel_rfl) (by kernel_rfl) (fun _ _ _ h => h) (Or.inl ⟨by rfl, fun w => by go_simp⟩) ?_
            refine wpAny_take (i := 8) (v := .int .i64 code) rfl (by kernel_rfl) (by kernel_rfl) (by kernel_rfl) (fun _ _ _ h => h) (Or.inl ⟨by rfl, fun w => by go_simp⟩) ?_
            refine wpAny_ready (rs := [10]) (by kernel_rfl) (by simp) ?_
            refine AllReady.cons rfl (fun K hK => ?_) AllReady.nil
            · go_simp
              refine hK _ _ ?_
              clear hK K
              have C4 := hidS (C3.out.since (one_below x3 (rbD 0 (.slice none 0 0))))
              have F5_4 := hidS (show Blk W x3.heap.size (rbD 0 (.slice none 0 0)) (x3.alloc (rbD 0 (.slice none 0 0))) from ⟨Q.blk_new _ _, Q.blk_lt C3.out.b2⟩)
              have F4_4 := hidS (F4_3.out.since (one_below x3 (rbD 0 (.slice none 0 0))))
              have V4 := hidS (wsince V3.out (one_below x3 (rbD 0 (.slice none 0 0))))
              clear C3 F4_3 V3
              generalize x3.alloc (.cells #[.int .i64 0, .slice none 0 0] 32) = x4 at C4 F5_4 F4_4 V4 ⊢
              generalize x3.heap.size = p5 at F5_4 ⊢
              clear x3
              obtain ⟨y, hy, b5, HO⟩ := stores (re := re) (e0 := ep1) (a0 := .slice a1 n1 k1) (b0 := .slice a2 n2 k2) C4.out F4_4.out F5_4.out V4.out hwl
              have HO := hidS HO
              have HB5 := hidS b5
              obtain ⟨⟨t0, t1, t2⟩, t3, t4, t5⟩ := box3 F4_4.out.1
              clear b5 V4 F5_4 C4 F4_4
              refine wpAny_ready (rs := [11]) (by kernel_rfl) (by simp) ?_
              refine AllReady.cons rfl (fun K hK => ?_) AllReady.nil
              go_simp
              refine hK _ _ ?_
              clear hK K t0 t1 t2 t3 t4 t5
              rw [← hy]
              clear hy
              obtain ⟨⟨t0, t1⟩, t3, t4⟩ := box2K HB5.out
              refine wpAny_ready (rs := [12]) (by kernel_rfl) (by simp) ?_
              refine AllReady.cons rfl (fun K hK => ?_) AllReady.nil
              go_simp
              refine hK _ _ ?_
              clear hK K t0 t1 t3 t4
              refine wpAny_ready (rs := [13]) (by kernel_rfl) (by simp) ?_
              refine AllReady.cons rfl (fun K hK => ?_) AllReady.nil
              go_simp
              refine hK _ _ ?_
              clear hK K
              refine wpAny_ready (rs := [14]) (by kernel_rfl) (by simp) ?_
              refine AllReady.cons rfl (fun K hK => ?_) AllReady.nil
              go_simp
              refine hK _ _ ?_
              clear hK K
              refine wpAny_done (by kernel_rfl) ?_ _
              go_wp2_with fail
              go_meet
              exact ⟨_, re, _, wl, code, rfl, rfl, HO⟩
          · go_simp
            refine hK _ _ ?_
            clear hK K
            have C3 := hidS (C2.out.since (one_below x2 (rbD 0 (.slice none 0 0))))
            have F5_3 := hidS (show Blk W x2.heap.size (rbD 0 (.slice none 0 0)) (x2.alloc (rbD 0 (.slice none 0 0))) from ⟨Q.blk_new _ _, Q.blk_lt C2.out.b2⟩)
            have F4_3 := hidS (F4_2.out.since (one_below x2 (rbD 0 (.slice none 0 0))))
            clear C2 F4_2
            generalize x2.alloc (.cells #[.int .i64 0, .slice none 0 0] 32) = x3 at C3 F5_3 F4_3 ⊢
            generalize x2.heap.size = p5 at F5_3 ⊢
            clear x2
            refine wpAny_ready (rs := [3]) (by kernel_rfl) (by simp) ?_
            refine AllReady.cons rfl (fun K hK => ?_) AllReady.nil
            · go_simp
              refine (specDone_any ep k0 m0 C3.out.i C3.out.s).mono ?_
              rintro e x4 ⟨ep1, X1, Y1, vs1, ss1, re, v1, wl, u1, ks1, code, rfl, hz1, hi1, hs1, hz2, hw1, hwl, hz3, hz4, hb1, hz5⟩
              have C4 := hidS (C3.out.since hb1)
              have F4_4 := hidS (F4_3.out.since hb1)
              have F5_4 := hidS (F5_3.out.since hb1)
              have V4 := hidS (wlow hw1 C3.out.gr.size)
              obtain ⟨a1, n1, k1, rfl⟩ := iform hi1
              obtain ⟨a2, n2, k2, rfl⟩ := sform hs1
              obtain ⟨a3, n3, k3, rfl⟩ := wform hw1
              clear hz1 hz2 hz3 hz4 hz5 hi1 hs1 hw1 hb1 C3 F4_3 F5_3
              refine hK _ _ ?_
              clear hK K
              refine wpAny_take (i := 4) (v := .tuple #[svv ep1 (.slice a1 n1 k1) (.slice a2 n2 k2), rvD re (.slice a3 n3 k3), u1, .int .i64 code]) rfl (by kernel_rfl) (by kernel_rfl) (by kernel_rfl) (fun _ _ _ h => h) (Or.inl ⟨by rfl, fun w => by go_simp⟩) ?_
              refine wpAny_take (i := 5) (v := svv ep1 (.slice a1 n1 k1) (.slice a2 n2 k2)) rfl (by kernel_rfl) (by kernel_rfl) (by kernel_rfl) (fun _ _ _ h => h) (Or.inl ⟨by rfl, fun w => by go_simp⟩) ?_
              refine wpAny_take (i := 6) (v := rvD re (.slice a3 n3 k3)) rfl (by kernel_rfl) (by kernel_rfl) (by kernel_rfl) (fun _ _ _ h => h) (Or.inl ⟨by rfl, fun w => by go_simp⟩) ?_
              refine wpAny_take (i := 7) (v := u1) rfl (by kernel_rfl) (by kernel_rfl) (by kernel_rfl) (fun _ _ _ h => h) (Or.inl ⟨by rfl, fun w => by go_simp⟩) ?_
              refine wpAny_take (i := 8) (v := .int .i64 code) rfl (by kernel_rfl) (by kernel_rfl) (by kernel_rfl) (fun _ _ _ h => h) (Or.inl ⟨by rfl, fun w => by go_simp⟩) ?_
              obtain ⟨y, hy, b5, HO⟩ := stores (re := re) (e0 := ep1) (a0 := .slice a1 n1 k1) (b0 := .slice a2 n2 k2) C4.out F4_4.out F5_4.out V4.out hwl
              have HO := hidS HO
              have HB5 := hidS b5
              obtain ⟨⟨t0, t1, t2⟩, t3, t4, t5⟩ := box3 F4_4.out.1
              clear b5 V4 F5_4 C4 F4_4
              refine wpAny_ready (rs := [11]) (by kernel_rfl) (by simp) ?_
              refine AllReady.cons rfl (fun K hK => ?_) AllReady.nil
              go_simp
              refine hK _ _ ?_
              clear hK K t0 t1 t2 t3 t4 t5
              rw [← hy]
              clear hy
              obtain ⟨⟨t0, t1⟩, t3, t4⟩ := box2K HB5.out
              refine wpAny_ready (rs := [12]) (by kernel_rfl) (by simp) ?_
              refine AllReady.cons rfl (fun K hK => ?_) AllReady.nil
              go_simp
              refine hK _ _ ?_
              clear hK K t0 t1 t3 t4
              refine wpAny_ready (rs := [13]) (by kernel_rfl) (by simp) ?_
              refine AllReady.cons rfl (fun K hK => ?_) AllReady.nil
              go_simp
              refine hK _ _ ?_
              clear hK K
              refine wpAny_ready (rs := [14]) (by kernel_rfl) (by simp) ?_
              refine AllReady.cons rfl (fun K hK => ?_) AllReady.nil
              go_simp
              refine hK _ _ ?_
              clear hK K
              refine wpAny_done (by kernel_rfl) ?_ _
              go_wp2_with fail
              go_meet
              exact ⟨_, re, _, wl, code, rfl, rfl, HO⟩
        · go_simp
          refine hK _ _ ?_
          clear hK K
          have C2 := hidS (C1.out.since (one_below x1 (rbD 0 (.slice none 0 0))))
          have F5_2 := hidS (show Blk W x1.heap.size (rbD 0 (.slice none 0 0)) (x1.alloc (rbD 0 (.slice none 0 0))) from ⟨Q.blk_new _ _, Q.blk_lt C1.out.b2⟩)
          clear C1
          generalize x1.alloc (.cells #[.int .i64 0, .slice none 0 0] 32) = x2 at C2 F5_2 ⊢
          generalize x1.heap.size = p5 at F5_2 ⊢
          clear x1
          refine wpAny_ready (rs := [3, 9]) (by kernel_rfl) (by simp) ?_
          refine AllReady.cons rfl (fun K hK => ?_) (AllReady.cons rfl (fun K hK => ?_) AllReady.nil)
          · go_simp
            refine (specDone_any ep k0 m0 C2.out.i C2.out.s).mono ?_
            rintro e x3 ⟨ep1, X1, Y1, vs1, ss1, re, v1, wl, u1, ks1, code, rfl, hz1, hi1, hs1, hz2, hw1, hwl, hz3, hz4, hb1, hz5⟩
            have C3 := hidS (C2.out.since hb1)
            have F5_3 := hidS (F5_2.out.since hb1)
            have V3 := hidS (wlow hw1 C2.out.gr.size)
            obtain ⟨a1, n1, k1, rfl⟩ := iform hi1
            obtain ⟨a2, n2, k2, rfl⟩ := sform hs1
            obtain ⟨a3, n3, k3, rfl⟩ := wform hw1
            clear hz1 hz2 hz3 hz4 hz5 hi1 hs1 hw1 hb1 C2 F5_2
            refine hK _ _ ?_
            clear hK K
            refine wpAny_take (i := 4) (v := .tuple #[svv ep1 (.slice a1 n1 k1) (.slice a2 n2 k2), rvD re (.slice a3 n3 k3), u1, .int .i64 code]) rfl (by kernel_rfl) (by kernel_rfl) (by kernel_rfl) (fun _ _ _ h => h) (Or.inl ⟨by rfl, fun w => by go_simp⟩) ?_
            refine wpAny_take (i := 5) (v := svv ep1 (.slice a1 n1 k1) (.slice a2 n2 k2)) rfl (by kernel_rfl) (by kernel_rfl) (by kernel_rfl) (fun _ _ _ h => h) (Or.inl ⟨by rfl, fun w => by go_simp⟩) ?_
            refine wpAny_take (i := 6) (v := rvD re (.slice a3 n3 k3)) rfl (by kernel_rfl) (by kernel_rfl) (by kernel_rfl) (fun _ _ _ h => h) (Or.inl ⟨by rfl, fun w => by go_simp⟩) ?_
            refine wpAny_take (i := 7) (v := u1) rfl (by kernel_rfl) (by kernel_rfl) (by kernel_rfl) (fun _ _ _ h => h) (Or.inl ⟨by rfl, fun w => by go_simp⟩) ?_
            refine wpAny_take (i := 8) (v := .int .i64 code) rfl (by kernel_rfl) (by kernel_rfl) (by kernel_rfl) (fun _ _ _ h => h) (Or.inl ⟨by rfl, fun w => by go_simp⟩) ?_
            refine wpAny_ready (rs := [9]) (by kernel_rfl) (by simp) ?_
            refine AllReady.cons rfl (fun K hK => ?_) AllReady.nil
            · go_simp
              refine hK _ _ ?_
              clear hK K
              have C4 := hidS (C3.out.since (one_below x3 (svb 0 (.slice none 0 0) (.slice none 0 0))))
              have F4_4 := hidS (show Blk W x3.heap.size (svb 0 (.slice none 0 0) (.slice none 0 0)) (x3.alloc (svb 0 (.slice none 0 0) (.slice none 0 0))) from ⟨Q.blk_new _ _, Q.blk_lt C3.out.b2⟩)
              have F5_4 := hidS (F5_3.out.since (one_below x3 (svb 0 (.slice none 0 0) (.slice none 0 0))))
              have V4 := hidS (wsince V3.out (one_below x3 (svb 0 (.slice none 0 0) (.slice none 0 0))))
              clear C3 F5_3 V3
              generalize x3.alloc (.cells #[.int .i64 0, .slice none 0 0, .slice none 0 0] 83) = x4 at C4 F4_4 F5_4 V4 ⊢
              generalize x3.heap.size = p4 at F4_4 ⊢
              clear x3
              obtain ⟨y, hy, b5, HO⟩ := stores (re := re) (e0 := ep1) (a0 := .slice a1 n1 k1) (b0 := .slice a2 n2 k2) C4.out F4_4.out F5_4.out V4.out hwl
              have HO := hidS HO
              have HB5 := hidS b5
              obtain ⟨⟨t0, t1, t2⟩, t3, t4, t5⟩ := box3 F4_4.out.1
              clear b5 V4 F5_4 C4 F4_4
              refine wpAny_ready (rs := [11]) (by kernel_rfl) (by simp) ?_
              refine AllReady.cons rfl (fun K hK => ?_) AllReady.nil
              go_simp
              refine hK _ _ ?_
              clear hK K t0 t1 t2 t3 t4 t5
              rw [← hy]
              clear hy
              obtain ⟨⟨t0, t1⟩, t3, t4⟩ := box2K HB5.out
              refine wpAny_ready (rs := [12]) (by kernel_rfl) (by simp) ?_
              refine AllReady.cons rfl (fun K hK => ?_) AllReady.nil
              go_simp
              refine hK _ _ ?_
              clear hK K t0 t1 t3 t4
              refine wpAny_ready (rs := [13]) (by kernel_rfl) (by simp) ?_
              refine AllReady.cons rfl (fun K hK => ?_) AllReady.nil
              go_simp
              refine hK _ _ ?_
              clear hK K
              refine wpAny_ready (rs := [14]) (by kernel_rfl) (by simp) ?_
              refine AllReady.cons rfl (fun K hK => ?_) AllReady.nil
              go_simp
              refine hK _ _ ?_
              clear hK K
              refine wpAny_done (by kernel_rfl) ?_ _
              go_wp2_with fail
              go_meet
              exact ⟨_, re, _, wl, code, rfl, rfl, HO⟩
          · go_simp
            refine hK _ _ ?_
            clear hK K
            have C3 := hidS (C2.out.since (one_below x2 (svb 0 (.slice none 0 0) (.slice none 0 0))))
            have F4_3 := hidS (show Blk W x2.heap.size (svb 0 (.slice none 0 0) (.slice none 0 0)) (x2.alloc (svb 0 (.slice none 0 0) (.slice none 0 0))) from ⟨Q.blk_new _ _, Q.blk_lt C2.out.b2⟩)
            have F5_3 := hidS (F5_2.out.since (one_below x2 (svb 0 (.slice none 0 0) (.slice none 0 0))))
            clear C2 F5_2
            generalize x2.alloc (.cells #[.int .i64 0, .slice none 0 0, .slice none 0 0] 83) = x3 at C3 F4_3 F5_3 ⊢
            generalize x2.heap.size = p4 at F4_3 ⊢
            clear x2
            refine wpAny_ready (rs := [3]) (by kernel_rfl) (by simp) ?_
            refine AllReady.cons rfl (fun K hK => ?_) AllReady.nil
            · go_simp
              refine (specDone_any ep k0 m0 C3.out.i C3.out.s).mono ?_
              rintro e x4 ⟨ep1, X1, Y1, vs1, ss1, re, v1, wl, u1, ks1, code, rfl, hz1, hi1, hs1, hz2, hw1, hwl, hz3, hz4, hb1, hz5⟩
              have C4 := hidS (C3.out.since hb1)
              have F4_4 := hidS (F4_3.out.since hb1)
              have F5_4 := hidS (F5_3.out.since hb1)
              have V4 := hidS (wlow hw1 C3.out.gr.size)
              obtain ⟨a1, n1, k1, rfl⟩ := iform hi1
              obtain ⟨a2, n2, k2, rfl⟩ := sform hs1
              obtain ⟨a3, n3, k3, rfl⟩ := wform hw1
              clear hz1 hz2 hz3 hz4 hz5 hi1 hs1 hw1 hb1 C3 F4_3 F5_3
              refine hK _ _ ?_
              clear hK K
              refine wpAny_take (i := 4) (v := .tuple #[svv ep1 (.slice a1 n1 k1) (.slice a2 n2 k2), rvD re (.slice a3 n3 k3), u1, .int .i64 code]) rfl (by kernel_rfl) (by kernel_rfl) (by kernel_rfl) (fun _ _ _ h => h) (Or.inl ⟨by rfl, fun w => by go_simp⟩) ?_
              refine wpAny_take (i := 5) (v := svv ep1 (.slice a1 n1 k1) (.slice a2 n2 k2)) rfl (by kernel_rfl) (by kernel_rfl) (by kernel_rfl) (fun _ _ _ h => h) (Or.inl ⟨by rfl, fun w => by go_simp⟩) ?_
              refine wpAny_take (i := 6) (v := rvD re (.slice a3 n3 k3)) rfl (by kernel_rfl) (by kernel_rfl) (by kernel_rfl) (fun _ _ _ h => h) (Or.inl ⟨by rfl, fun w => by go_simp⟩) ?_
              refine wpAny_take (i := 7) (v := u1) rfl (by kernel_rfl) (by kernel_rfl) (by kernel_rfl) (fun _ _ _ h => h) (Or.inl ⟨by rfl, fun w => by go_simp⟩) ?_
              refine wpAny_take (i := 8) (v := .int .i64 code) rfl (by kernel_rfl) (by kernel_rfl) (by kernel_rfl) (fun _ _ _ h => h) (Or.inl ⟨by rfl, fun w => by go_simp⟩) ?_
              obtain ⟨y, hy, b5, HO⟩ := stores (re := re) (e0 := ep1) (a0 := .slice a1 n1 k1) (b0 := .slice a2 n2 k2) C4.out F4_4.out F5_4.out V4.out hwl
              have HO := hidS HO
              have HB5 := hidS b5
              obtain ⟨⟨t0, t1, t2⟩, t3, t4, t5⟩ := box3 F4_4.out.1
              clear b5 V4 F5_4 C4 F4_4
              refine wpAny_ready (rs := [11]) (by kernel_rfl) (by simp) ?_
              refine AllReady.cons rfl (fun K hK => ?_) AllReady.nil
              go_simp
              refine hK _ _ ?_
              clear hK K t0 t1 t2 t3 t4 t5
              rw [← hy]
              clear hy
              obtain ⟨⟨t0, t1⟩, t3, t4⟩ := box2K HB5.out
              refine wpAny_ready (rs := [12]) (by kernel_rfl) (by simp) ?_
              refine AllReady.cons rfl (fun K hK => ?_) AllReady.nil
              go_simp
              refine hK _ _ ?_
              clear hK K t0 t1 t3 t4
              refine wpAny_ready (rs := [13]) (by kernel_rfl) (by simp) ?_
              refine AllReady.cons rfl (fun K hK => ?_) AllReady.nil
              go_simp
              refine hK _ _ ?_
              clear hK K
              refine wpAny_ready (rs := [14]) (by kernel_rfl) (by simp) ?_
              refine AllReady.cons rfl (fun K hK => ?_) AllReady.nil
              go_simp
              refine hK _ _ ?_
              clear hK K
              refine wpAny_done (by kernel_rfl) ?_ _
              go_wp2_with fail
              go_meet
              exact ⟨_, re, _, wl, code, rfl, rfl, HO⟩
      · go_simp
        refine hK _ _ ?_
        clear hK K
        have C2 := hidS (C1.out.since (one_below x1 (svb 0 (.slice none 0 0) (.slice none 0 0))))
        have F4_2 := hidS (show Blk W x1.heap.size (svb 0 (.slice none 0 0) (.slice none 0 0)) (x1.alloc (svb 0 (.slice none 0 0) (.slice none 0 0))) from ⟨Q.blk_new _ _, Q.blk_lt C1.out.b2⟩)
        clear C1
        generalize x1.alloc (.cells #[.int .i64 0, .slice none 0 0, .slice none 0 0] 83) = x2 at C2 F4_2 ⊢
        generalize x1.heap.size = p4 at F4_2 ⊢
        clear x1
        refine wpAny_ready (rs := [0, 10]) (by kernel_rfl) (by simp) ?_
        refine AllReady.cons rfl (fun K hK => ?_) (AllReady.cons rfl (fun K hK => ?_) AllReady.nil)
        · obtain ⟨⟨o0, o1, o2⟩, o3, o4, o5⟩ := box3 C2.out.b3
          go_simp
          refine hK _ _ ?_
          clear hK K o0 o1 o2 o3 o4 o5
          refine wpAny_ready (rs := [3, 10]) (by kernel_rfl) (by simp) ?_
          refine AllReady.cons rfl (fun K hK => ?_) (AllReady.cons rfl (fun K hK => ?_) AllReady.nil)
          · go_simp
            refine (specDone_any ep k0 m0 C2.out.i C2.out.s).mono ?_
            rintro e x3 ⟨ep1, X1, Y1, vs1, ss1, re, v1, wl, u1, ks1, code, rfl, hz1, hi1, hs1, hz2, hw1, hwl, hz3, hz4, hb1, hz5⟩
            have C3 := hidS (C2.out.since hb1)
            have F4_3 := hidS (F4_2.out.since hb1)
            have V3 := hidS (wlow hw1 C2.out.gr.size)
            obtain ⟨a1, n1, k1, rfl⟩ := iform hi1
            obtain ⟨a2, n2, k2, rfl⟩ := sform hs1
            obtain ⟨a3, n3, k3, rfl⟩ := wform hw1
            clear hz1 hz2 hz3 hz4 hz5 hi1 hs1 hw1 hb1 C2 F4_2
            refine hK _ _ ?_
            clear hK K
            refine wpAny_take (i := 4) (v := .tuple #[svv ep1 (.slice a1 n1 k1) (.slice a2 n2 k2), rvD re (.slice a3 n3 k3), u1, .int .i64 code]) rfl (by kernel_rfl) (by kernel_rfl) (by kernel_rfl) (fun _ _ _ h => h) (Or.inl ⟨by rfl, fun w => by go_simp⟩) ?_
            refine wpAny_take (i := 5) (v := svv ep1 (.slice a1 n1 k1) (.slice a2 n2 k2)) rfl (by kernel_rfl) (by kernel_rfl) (by kernel_rfl) (fun _ _ _ h => h) (Or.inl ⟨by rfl, fun w => by go_simp⟩) ?_
            refine wpAny_take (i := 6) (v := rvD re (.slice a3 n3 k3)) rfl (by kernel_rfl) (by kernel_rfl) (by kernel_rfl) (fun _ _ _ h => h) (Or.inl ⟨by rfl, fun w => by go_simp⟩) ?_
            refine wpAny_take (i := 7) (v := u1) rfl (by kernel_rfl) (by kernel_rfl) (by kernel_rfl) (fun _ _ _ h => h) (Or.inl ⟨by rfl, fun w => by go_simp⟩) ?_
            refine wpAny_take (i := 8) (v := .int .i64 code) rfl (by kernel_rfl) (by kernel_rfl) (by kernel_rfl) (fun _ _ _ h => h) (Or.inl ⟨by rfl, fun w => by go_simp⟩) ?_
            refine wpAny_ready (rs := [10]) (by kernel_rfl) (by simp) ?_
            refine AllReady.cons rfl (fun K hK => ?_) AllReady.nil
            · go_simp
              refine hK _ _ ?_
              clear hK K
              have C4 := hidS (C3.out.since (one_below x3 (rbD 0 (.slice none 0 0))))
              have F5_4 := hidS (show Blk W x3.heap.size (rbD 0 (.slice none 0 0)) (x3.alloc (rbD 0 (.slice none 0 0))) from ⟨Q.blk_new _ _, Q.blk_lt C3.out.b2⟩)
              have F4_4 := hidS (F4_3.out.since (one_below x3 (rbD 0 (.slice none 0 0))))
              have V4 := hidS (wsince V3.out (one_below x3 (rbD 0 (.slice none 0 0))))
              clear C3 F4_3 V3
              generalize x3.alloc (.cells #[.int .i64 0, .slice none 0 0] 32) = x4 at C4 F5_4 F4_4 V4 ⊢
              generalize x3.heap.size = p5 at F5_4 ⊢
              clear x3
              obtain ⟨y, hy, b5, HO⟩ := stores (re := re) (e0 := ep1) (a0 := .slice a1 n1 k1) (b0 := .slice a2 n2 k2) C4.out F4_4.out F5_4.out V4.out hwl
              have HO := hidS HO
              have HB5 := hidS b5
              obtain ⟨⟨t0, t1, t2⟩, t3, t4, t5⟩ := box3 F4_4.out.1
              clear b5 V4 F5_4 C4 F4_4
              refine wpAny_ready (rs := [11]) (by kernel_rfl) (by simp) ?_
              refine AllReady.cons rfl (fun K hK => ?_) AllReady.nil
              go_simp
              refine hK _ _ ?_
              clear hK K t0 t1 t2 t3 t4 t5
              rw [← hy]
              clear hy
              obtain ⟨⟨t0, t1⟩, t3, t4⟩ := box2K HB5.out
              refine wpAny_ready (rs := [12]) (by kernel_rfl) (by simp) ?_
              refine AllReady.cons rfl (fun K hK => ?_) AllReady.nil
              go_simp
              refine hK _ _ ?_
              clear hK K t0 t1 t3 t4
              refine wpAny_ready (rs := [13]) (by kernel_rfl) (by simp) ?_
              refine AllReady.cons rfl (fun K hK => ?_) AllReady.nil
              go_simp
              refine hK _ _ ?_
              clear hK K
              refine wpAny_ready (rs := [14]) (by kernel_rfl) (by simp) ?_
              refine AllReady.cons rfl (fun K hK => ?_) AllReady.nil
              go_simp
              refine hK _ _ ?_
              clear hK K
              refine wpAny_done (by kernel_rfl) ?_ _
              go_wp2_with fail
              go_meet
              exact ⟨_, re, _, wl, code, rfl, rfl, HO⟩
          · go_simp
            refine hK _ _ ?_
            clear hK K
            have C3 := hidS (C2.out.since (one_below x2 (rbD 0 (.slice none 0 0))))
            have F5_3 := hidS (show Blk W x2.heap.size (rbD 0 (.slice none 0 0)) (x2.alloc (rbD 0 (.slice none 0 0))) from ⟨Q.blk_new _ _, Q.blk_lt C2.out.b2⟩)
            have F4_3 := hidS (F4_2.out.since (one_below x2 (rbD 0 (.slice none 0 0))))
            clear C2 F4_2
            generalize x2.alloc (.cells #[.int .i64 0, .slice none 0 0] 32) = x3 at C3 F5_3 F4_3 ⊢
            generalize x2.heap.size = p5 at F5_3 ⊢
            clear x2
            refine wpAny_ready (rs := [3]) (by kernel_rfl) (by simp) ?_
            refine AllReady.cons rfl (fun K hK => ?_) AllReady.nil
            · go_simp
              refine (specDone_any ep k0 m0 C3.out.i C3.out.s).mono ?_
              rintro e x4 ⟨ep1, X1, Y1, vs1, ss1, re, v1, wl, u1, ks1, code, rfl, hz1, hi1, hs1, hz2, hw1, hwl, hz3, hz4, hb1, hz5⟩
              have C4 := hidS (C3.out.since hb1)
              have F4_4 := hidS (F4_3.out.since hb1)
              have F5_4 := hidS (F5_3.out.since hb1)
              have V4 := hidS (wlow hw1 C3.out.gr.size)
              obtain ⟨a1, n1, k1, rfl⟩ := iform hi1
              obtain ⟨a2, n2, k2, rfl⟩ := sform hs1
              obtain ⟨a3, n3, k3, rfl⟩ := wform hw1
              clear hz1 hz2 hz3 hz4 hz5 hi1 hs1 hw1 hb1 C3 F4_3 F5_3
              refine hK _ _ ?_
              clear hK K
              refine wpAny_take (i := 4) (v := .tuple #[svv ep1 (.slice a1 n1 k1) (.slice a2 n2 k2), rvD re (.slice a3 n3 k3), u1, .int .i64 code]) rfl (by kernel_rfl) (by kernel_rfl) (by kernel_rfl) (fun _ _ _ h => h) (Or.inl ⟨by rfl, fun w => by go_simp⟩) ?_
              refine wpAny_take (i := 5) (v := svv ep1 (.slice a1 n1 k1) (.slice a2 n2 k2)) rfl (by kernel_rfl) (by kernel_rfl) (by kernel_rfl) (fun _ _ _ h => h) (Or.inl ⟨by rfl, fun w => by go_simp⟩) ?_
              refine wpAny_take (i := 6) (v := rvD re (.slice a3 n3 k3)) rfl (by kernel_rfl) (by kernel_rfl) (by kernel_rfl) (fun _ _ _ h => h) (Or.inl ⟨by rfl, fun w => by go_simp⟩) ?_
              refine wpAny_take (i := 7) (v := u1) rfl (by kernel_rfl) (by kernel_rfl) (by kernel_rfl) (fun _ _ _ h => h) (Or.inl ⟨by rfl, fun w => by go_simp⟩) ?_
              refine wpAny_take (i := 8) (v := .int .i64 code) rfl (by kernel_rfl) (by kernel_rfl) (by kernel_rfl) (fun _ _ _ h => h) (Or.inl ⟨by rfl, fun w => by go_simp⟩) ?_
              obtain ⟨y, hy, b5, HO⟩ := stores (re := re) (e0 := ep1) (a0 := .slice a1 n1 k1) (b0 := .slice a2 n2 k2) C4.out F4_4.out F5_4.out V4.out hwl
              have HO := hidS HO
              have HB5 := hidS b5
              obtain ⟨⟨t0, t1, t2⟩, t3, t4, t5⟩ := box3 F4_4.out.1
              clear b5 V4 F5_4 C4 F4_4
              refine wpAny_ready (rs := [11]) (by kernel_rfl) (by simp) ?_
              refine AllReady.cons rfl (fun K hK => ?_) AllReady.nil
              go_simp
              refine hK _ _ ?_
              clear hK K t0 t1 t2 t3 t4 t5
              rw [← hy]
              clear hy
              obtain ⟨⟨t0, t1⟩, t3, t4⟩ := box2K HB5.out
              refine wpAny_ready (rs := [12]) (by kernel_rfl) (by simp) ?_
              refine AllReady.cons rfl (fun K hK => ?_) AllReady.nil
              go_simp
              refine hK _ _ ?_
              clear hK K t0 t1 t3 t4
              refine wpAny_ready (rs := [13]) (by kernel_rfl) (by simp) ?_
              refine AllReady.cons rfl (fun K hK => ?_) AllReady.nil
              go_simp
              refine hK _ _ ?_
              clear hK K
              refine wpAny_ready (rs := [14]) (by kernel_rfl) (by simp) ?_
              refine AllReady.cons rfl (fun K hK => ?_) AllReady.nil
              go_simp
              refine hK _ _ ?_
              clear hK K
              refine wpAny_done (by kernel_rfl) ?_ _
              go_wp2_with fail
              go_meet
              exact ⟨_, re, _, wl, code, rfl, rfl, HO⟩
        · go_simp
          refine hK _ _ ?_
          clear hK K
          have C3 := hidS (C2.out.since (one_below x2 (rbD 0 (.slice none 0 0))))
          have F5_3 := hidS (show Blk W x2.heap.size (rbD 0 (.slice none 0 0)) (x2.alloc (rbD 0 (.slice none 0 0))) from ⟨Q.blk_new _ _, Q.blk_lt C2.out.b2⟩)
          have F4_3 := hidS (F4_2.out.since (one_below x2 (rbD 0 (.slice none 0 0))))
          clear C2 F4_2
          generalize x2.alloc (.cells #[.int .i64 0, .slice none 0 0] 32) = x3 at C3 F5_3 F4_3 ⊢
          generalize x2.heap.size = p5 at F5_3 ⊢
          clear x2
          refine wpAny_ready (rs := [0]) (by kernel_rfl) (by simp) ?_
          refine AllReady.cons rfl (fun K hK => ?_) AllReady.nil
          · obtain ⟨⟨o0, o1, o2⟩, o3, o4, o5⟩ := box3 C3.out.b3
            go_simp
            refine hK _ _ ?_
            clear hK K o0 o1 o2 o3 o4 o5
            refine wpAny_ready (rs := [3]) (by kernel_rfl) (by simp) ?_
            refine AllReady.cons rfl (fun K hK => ?_) AllReady.nil
            · go_simp
              refine (specDone_any ep k0 m0 C3.out.i C3.out.s).mono ?_
              rintro e x4 ⟨ep1, X1, Y1, vs1, ss1, re, v1, wl, u1, ks1, code, rfl, hz1, hi1, hs1, hz2, hw1, hwl, hz3, hz4, hb1, hz5⟩
              have C4 := hidS (C3.out.since hb1)
              have F4_4 := hidS (F4_3.out.since hb1)
              have F5_4 := hidS (F5_3.out.since hb1)
              have V4 := hidS (wlow hw1 C3.out.gr.size)
              obtain ⟨a1, n1, k1, rfl⟩ := iform hi1
              obtain ⟨a2, n2, k2, rfl⟩ := sform hs1
              obtain ⟨a3, n3, k3, rfl⟩ := wform hw1
              clear hz1 hz2 hz3 hz4 hz5 hi1 hs1 hw1 hb1 C3 F4_3 F5_3
              refine hK _ _ ?_
              clear hK K
              refine wpAny_take (i := 4) (v := .tuple #[svv ep1 (.slice a1 n1 k1) (.slice a2 n2 k2), rvD re (.slice a3 n3 k3), u1, .int .i64 code]) rfl (by kernel_rfl) (by kernel_rfl) (by kernel_rfl) (fun _ _ _ h => h) (Or.inl ⟨by rfl, fun w => by go_simp⟩) ?_
              refine wpAny_take (i := 5) (v := svv ep1 (.slice a1 n1 k1) (.slice a2 n2 k2)) rfl (by kernel_rfl) (by kernel_rfl) (by kernel_rfl) (fun _ _ _ h => h) (Or.inl ⟨by rfl, fun w => by go_simp⟩) ?_
              refine wpAny_take (i := 6) (v := rvD re (.slice a3 n3 k3)) rfl (by kernel_rfl) (by kernel_rfl) (by kernel_rfl) (fun _ _ _ h => h) (Or.inl ⟨by rfl, fun w => by go_simp⟩) ?_
              refine wpAny_take (i := 7) (v := u1) rfl (by kernel_rfl) (by kernel_rfl) (by kernel_rfl) (fun _ _ _ h => h) (Or.inl ⟨by rfl, fun w => by go_simp⟩) ?_
              refine wpAny_take (i := 8) (v := .int .i64 code) rfl (by kernel_rfl) (by kernel_rfl) (by kernel_rfl) (fun _ _ _ h => h) (Or.inl ⟨by rfl, fun w => by go_simp⟩) ?_
              obtain ⟨y, hy, b5, HO⟩ := stores (re := re) (e0 := ep1) (a0 := .slice a1 n1 k1) (b0 := .slice a2 n2 k2) C4.out F4_4.out F5_4.out V4.out hwl
              have HO := hidS HO
              have HB5 := hidS b5
              obtain ⟨⟨t0, t1, t2⟩, t3, t4, t5⟩ := box3 F4_4.out.1
              clear b5 V4 F5_4 C4 F4_4
              refine wpAny_ready (rs := [11]) (by kernel_rfl) (by simp) ?_
              refine AllReady.cons rfl (fun K hK => ?_) AllReady.nil
              go_simp
              refine hK _ _ ?_
              clear hK K t0 t1 t2 t3 t4 t5
              rw [← hy]
              clear hy
              obtain ⟨⟨t0, t1⟩, t3, t4⟩ := box2K HB5.out
              refine wpAny_ready (rs := [12]) (by kernel_rfl) (by simp) ?_
              refine AllReady.cons rfl (fun K hK => ?_) AllReady.nil
              go_simp
              refine hK _ _ ?_
              clear hK K t0 t1 t3 t4
              refine wpAny_ready (rs := [13]) (by kernel_rfl) (by simp) ?_
              refine AllReady.cons rfl (fun K hK => ?_) AllReady.nil
              go_simp
              refine hK _ _ ?_
              clear hK K
              refine wpAny_ready (rs := [14]) (by kernel_rfl) (by simp) ?_
              refine AllReady.cons rfl (fun K hK => ?_) AllReady.nil
              go_simp
              refine hK _ _ ?_
              clear hK K
              refine wpAny_done (by kernel_rfl) ?_ _
              go_wp2_with fail
              go_meet
              exact ⟨_, re, _, wl, code, rfl, rfl, HO⟩
      · go_simp
        refine hK _ _ ?_
        clear hK K
        have C2 := hidS (C1.out.since (one_below x1 (rbD 0 (.slice none 0 0))))
        have F5_2 := hidS (show Blk W x1.heap.size (rbD 0 (.slice none 0 0)) (x1.alloc (rbD 0 (.slice none 0 0))) from ⟨Q.blk_new _ _, Q.blk_lt C1.out.b2⟩)
        clear C1
        generalize x1.alloc (.cells #[.int .i64 0, .slice none 0 0] 32) = x2 at C2 F5_2 ⊢
        generalize x1.heap.size = p5 at F5_2 ⊢
        clear x1
        refine wpAny_ready (rs := [0, 9]) (by kernel_rfl) (by simp) ?_
        refine AllReady.cons rfl (fun K hK => ?_) (AllReady.cons rfl (fun K hK => ?_) AllReady.nil)
        · obtain ⟨⟨o0, o1, o2⟩, o3, o4, o5⟩ := box3 C2.out.b3
          go_simp
          refine hK _ _ ?_
          clear hK K o0 o1 o2 o3 o4 o5
          refine wpAny_ready (rs := [3, 9]) (by kernel_rfl) (by simp) ?_
          refine AllReady.cons rfl (fun K hK => ?_) (AllReady.cons rfl (fun K hK => ?_) AllReady.nil)
          · go_simp
            refine (specDone_any ep k0 m0 C2.out.i C2.out.s).mono ?_
            rintro e x3 ⟨ep1, X1, Y1, vs1, ss1, re, v1, wl, u1, ks1, code, rfl, hz1, hi1, hs1, hz2, hw1, hwl, hz3, hz4, hb1, hz5⟩
            have C3 := hidS (C2.out.since hb1)
            have F5_3 := hidS (F5_2.out.since hb1)
            have V3 := hidS (wlow hw1 C2.out.gr.size)
            obtain ⟨a1, n1, k1, rfl⟩ := iform hi1
            obtain ⟨a2, n2, k2, rfl⟩ := sform hs1
            obtain ⟨a3, n3, k3, rfl⟩ := wform hw1
            clear hz1 hz2 hz3 hz4 hz5 hi1 hs1 hw1 hb1 C2 F5_2
            refine hK _ _ ?_
            clear hK K
            refine wpAny_take (i := 4) (v := .tuple #[svv ep1 (.slice a1 n1 k1) (.slice a2 n2 k2), rvD re (.slice a3 n3 k3), u1, .int .i64 code]) rfl (by kernel_rfl) (by kernel_rfl) (by kernel_rfl) (fun _ _ _ h => h) (Or.inl ⟨by rfl, fun w => by go_simp⟩) ?_
            refine wpAny_take (i := 5) (v := svv ep1 (.slice a1 n1 k1) (.slice a2 n2 k2)) rfl (by kernel_rfl) (by kernel_rfl) (by kernel_rfl) (fun _ _ _ h => h) (Or.inl ⟨by rfl, fun w => by go_simp⟩) ?_
            refine wpAny_take (i := 6) (v := rvD re (.slice a3 n3 k3)) rfl (by kernel_rfl) (by kernel_rfl) (by kernel_rfl) (fun _ _ _ h => h) (Or.inl ⟨by rfl, fun w => by go_simp⟩) ?_
            refine wpAny_take (i := 7) (v := u1) rfl (by kernel_rfl) (by kernel_rfl) (by kernel_rfl) (fun _ _ _ h => h) (Or.inl ⟨by rfl, fun w => by go_simp⟩) ?_
            refine wpAny_take (i := 8) (v := .int .i64 code) rfl (by kernel_rfl) (by kernel_rfl) (by kernel_rfl) (fun _ _ _ h => h) (Or.inl ⟨by rfl, fun w => by go_simp⟩) ?_
            refine wpAny_ready (rs := [9]) (by kernel_rfl) (by simp) ?_
            refine AllReady.cons rfl (fun K hK => ?_) AllReady.nil
            · go_simp
              refine hK _ _ ?_
              clear hK K
              have C4 := hidS (C3.out.since (one_below x3 (svb 0 (.slice none 0 0) (.slice none 0 0))))
              have F4_4 := hidS (show Blk W x3.heap.size (svb 0 (.slice none 0 0) (.slice none 0 0)) (x3.alloc (svb 0 (.slice none 0 0) (.slice none 0 0))) from ⟨Q.blk_new _ _, Q.blk_lt C3.out.b2⟩)
              have F5_4 := hidS (F5_3.out.since (one_below x3 (svb 0 (.slice none 0 0) (.slice none 0 0))))
              have V4 := hidS (wsince V3.out (one_below x3 (svb 0 (.slice none 0 0) (.slice none 0 0))))
              clear C3 F5_3 V3
              generalize x3.alloc (.cells #[.int .i64 0, .slice none 0 0, .slice none 0 0] 83) = x4 at C4 F4_4 F5_4 V4 ⊢
              generalize x3.heap.size = p4 at F4_4 ⊢
              clear x3
              obtain ⟨y, hy, b5, HO⟩ := stores (re := re) (e0 := ep1) (a0 := .slice a1 n1 k1) (b0 := .slice a2 n2 k2) C4.out F4_4.out F5_4.out V4.out hwl
              have HO := hidS HO
              have HB5 := hidS b5
              obtain ⟨⟨t0, t1, t2⟩, t3, t4, t5⟩ := box3 F4_4.out.1
              clear b5 V4 F5_4 C4 F4_4
              refine wpAny_ready (rs := [11]) (by kernel_rfl) (by simp) ?_
              refine AllReady.cons rfl (fun K hK => ?_) AllReady.nil
              go_simp
              refine hK _ _ ?_
              clear hK K t0 t1 t2 t3 t4 t5
              rw [← hy]
              clear hy
              obtain ⟨⟨t0, t1⟩, t3, t4⟩ := box2K HB5.out
              refine wpAny_ready (rs := [12]) (by kernel_rfl) (by simp) ?_
              refine AllReady.cons rfl (fun K hK => ?_) AllReady.nil
              go_simp
              refine hK _ _ ?_
              clear hK K t0 t1 t3 t4
              refine wpAny_ready (rs := [13]) (by kernel_rfl) (by simp) ?_
              refine AllReady.cons rfl (fun K hK => ?_) AllReady.nil
              go_simp
              refine hK _ _ ?_
              clear hK K
              refine wpAny_ready (rs := [14]) (by kernel_rfl) (by simp) ?_
              refine AllReady.cons rfl (fun K hK => ?_) AllReady.nil
              go_simp
              refine hK _ _ ?_
              clear hK K
              refine wpAny_done (by kernel_rfl) ?_ _
              go_wp2_with fail
              go_meet
              exact ⟨_, re, _, wl, code, rfl, rfl, HO⟩
          · go_simp
            refine hK _ _ ?_
            clear hK K
            have C3 := hidS (C2.out.since (one_below x2 (svb 0 (.slice none 0 0) (.slice none 0 0))))
            have F4_3 := hidS (show Blk W x2.heap.size (svb 0 (.slice none 0 0) (.slice none 0 0)) (x2.alloc (svb 0 (.slice none 0 0) (.slice none 0 0))) from ⟨Q.blk_new _ _, Q.blk_lt C2.out.b2⟩)
            have F5_3 := hidS (F5_2.out.since (one_below x2 (svb 0 (.slice none 0 0) (.slice none 0 0))))
            clear C2 F5_2
            generalize x2.alloc (.cells #[.int .i64 0, .slice none 0 0, .slice none 0 0] 83) = x3 at C3 F4_3 F5_3 ⊢
            generalize x2.heap.size = p4 at F4_3 ⊢
            clear x2
            refine wpAny_ready (rs := [3]) (by kernel_rfl) (by simp) ?_
            refine AllReady.cons rfl (fun K hK => ?_) AllReady.nil
            · go_simp
              refine (specDone_any ep k0 m0 C3.out.i C3.out.s).mono ?_
              rintro e x4 ⟨ep1, X1, Y1, vs1, ss1, re, v1, wl, u1, ks1, code, rfl, hz1, hi1, hs1, hz2, hw1, hwl, hz3, hz4, hb1, hz5⟩
              have C4 := hidS (C3.out.since hb1)
              have F4_4 := hidS (F4_3.out.since hb1)
              have F5_4 := hidS (F5_3.out.since hb1)
              have V4 := hidS (wlow hw1 C3.out.gr.size)
              obtain ⟨a1, n1, k1, rfl⟩ := iform hi1
              obtain ⟨a2, n2, k2, rfl⟩ := sform hs1
              obtain ⟨a3, n3, k3, rfl⟩ := wform hw1
              clear hz1 hz2 hz3 hz4 hz5 hi1 hs1 hw1 hb1 C3 F4_3 F5_3
              refine hK _ _ ?_
              clear hK K
              refine wpAny_take (i := 4) (v := .tuple #[svv ep1 (.slice a1 n1 k1) (.slice a2 n2 k2), rvD re (.slice a3 n3 k3), u1, .int .i64 code]) rfl (by kernel_rfl) (by kernel_rfl) (by kernel_rfl) (fun _ _ _ h => h) (Or.inl ⟨by rfl, fun w => by go_simp⟩) ?_
              refine wpAny_take (i := 5) (v := svv ep1 (.slice a1 n1 k1) (.slice a2 n2 k2)) rfl (by kernel_rfl) (by kernel_rfl) (by kernel_rfl) (fun _ _ _ h => h) (Or.inl ⟨by rfl, fun w => by go_simp⟩) ?_
              refine wpAny_take (i := 6) (v := rvD re (.slice a3 n3 k3)) rfl (by kernel_rfl) (by kernel_rfl) (by kernel_rfl) (fun _ _ _ h => h) (Or.inl ⟨by rfl, fun w => by go_simp⟩) ?_
              refine wpAny_take (i := 7) (v := u1) rfl (by kernel_rfl) (by kernel_rfl) (by kernel_rfl) (fun _ _ _ h => h) (Or.inl ⟨by rfl, fun w => by go_simp⟩) ?_
              refine wpAny_take (i := 8) (v := .int .i64 code) rfl (by kernel_rfl) (by kernel_rfl) (by kernel_rfl) (fun _ _ _ h => h) (Or.inl ⟨by rfl, fun w => by go_simp⟩) ?_
              obtain ⟨y, hy, b5, HO⟩ := stores (re := re) (e0 := ep1) (a0 := .slice a1 n1 k1) (b0 := .slice a2 n2 k2) C4.out F4_4.out F5_4.out V4.out hwl
              have HO := hidS HO
              have HB5 := hidS b5
              obtain ⟨⟨t0, t1, t2⟩, t3, t4, t5⟩ := box3 F4_4.out.1
              clear b5 V4 F5_4 C4 F4_4
              refine wpAny_ready (rs := [11]) (by kernel_rfl) (by simp) ?_
              refine AllReady.cons rfl (fun K hK => ?_) AllReady.nil
              go_simp
              refine hK _ _ ?_
              clear hK K t0 t1 t2 t3 t4 t5
              rw [← hy]
              clear hy
              obtain ⟨⟨t0, t1⟩, t3, t4⟩ := box2K HB5.out
              refine wpAny_ready (rs := [12]) (by kernel_rfl) (by simp) ?_
              refine AllReady.cons rfl (fun K hK => ?_) AllReady.nil
              go_simp
              refine hK _ _ ?_
              clear hK K t0 t1 t3 t4
              refine wpAny_ready (rs := [13]) (by kernel_rfl) (by simp) ?_
              refine AllReady.cons rfl (fun K hK => ?_) AllReady.nil
              go_simp
              refine hK _ _ ?_
              clear hK K
              refine wpAny_ready (rs := [14]) (by kernel_rfl) (by simp) ?_
              refine AllReady.cons rfl (fun K hK => ?_) AllReady.nil
              go_simp
              refine hK _ _ ?_
              clear hK K
              refine wpAny_done (by kernel_rfl) ?_ _
              go_wp2_with fail
              go_meet
              exact ⟨_, re, _, wl, code, rfl, rfl, HO⟩
        · go_simp
          refine hK _ _ ?_
          clear hK K
          have C3 := hidS (C2.out.since (one_below x2 (svb 0 (.slice none 0 0) (.slice none 0 0))))
          have F4_3 := hidS (show Blk W x2.heap.size (svb 0 (.slice none 0 0) (.slice none 0 0)) (x2.alloc (svb 0 (.slice none 0 0) (.slice none 0 0))) from ⟨Q.blk_new _ _, Q.blk_lt C2.out.b2⟩)
          have F5_3 := hidS (F5_2.out.since (one_below x2 (svb 0 (.slice none 0 0) (.slice none 0 0))))
          clear C2 F5_2
          generalize x2.alloc (.cells #[.int .i64 0, .slice none 0 0, .slice none 0 0] 83) = x3 at C3 F4_3 F5_3 ⊢
          generalize x2.heap.size = p4 at F4_3 ⊢
          clear x2
          refine wpAny_ready (rs := [0]) (by kernel_rfl) (by simp) ?_
          refine AllReady.cons rfl (fun K hK => ?_) AllReady.nil
          · obtain ⟨⟨o0, o1, o2⟩, o3, o4, o5⟩ := box3 C3.out.b3
            go_simp
            refine hK _ _ ?_
            clear hK K o0 o1 o2 o3 o4 o5
            refine wpAny_ready (rs := [3]) (by kernel_rfl) (by simp) ?_
            refine AllReady.cons rfl (fun K hK => ?_) AllReady.nil
            · go_simp
              refine (specDone_any ep k0 m0 C3.out.i C3.out.s).mono ?_
              rintro e x4 ⟨ep1, X1, Y1, vs1, ss1, re, v1, wl, u1, ks1, code, rfl, hz1, hi1, hs1, hz2, hw1, hwl, hz3, hz4, hb1, hz5⟩
              have C4 := hidS (C3.out.since hb1)
              have F4_4 := hidS (F4_3.out.since hb1)
              have F5_4 := hidS (F5_3.out.since hb1)
              have V4 := hidS (wlow hw1 C3.out.gr.size)
              obtain ⟨a1, n1, k1, rfl⟩ := iform hi1
              obtain ⟨a2, n2, k2, rfl⟩ := sform hs1
              obtain ⟨a3, n3, k3, rfl⟩ := wform hw1
              clear hz1 hz2 hz3 hz4 hz5 hi1 hs1 hw1 hb1 C3 F4_3 F5_3
              refine hK _ _ ?_
              clear hK K
              refine wpAny_take (i := 4) (v := .tuple #[svv ep1 (.slice a1 n1 k1) (.slice a2 n2 k2), rvD re (.slice a3 n3 k3), u1, .int .i64 code]) rfl (by kernel_rfl) (by kernel_rfl) (by kernel_rfl) (fun _ _ _ h => h) (Or.inl ⟨by rfl, fun w => by go_simp⟩) ?_
              refine wpAny_take (i := 5) (v := svv ep1 (.slice a1 n1 k1) (.slice a2 n2 k2)) rfl (by kernel_rfl) (by kernel_rfl) (by kernel_rfl) (fun _ _ _ h => h) (Or.inl ⟨by rfl, fun w => by go_simp⟩) ?_
              refine wpAny_take (i := 6) (v := rvD re (.slice a3 n3 k3)) rfl (by kernel_rfl) (by kernel_rfl) (by kernel_rfl) (fun _ _ _ h => h) (Or.inl ⟨by rfl, fun w => by go_simp⟩) ?_
              refine wpAny_take (i := 7) (v := u1) rfl (by kernel_rfl) (by kernel_rfl) (by kernel_rfl) (fun _ _ _ h => h) (Or.inl ⟨by rfl, fun w => by go_simp⟩) ?_
              refine wpAny_take (i := 8) (v := .int .i64 code) rfl (by kernel_rfl) (by kernel_rfl) (by kernel_rfl) (fun _ _ _ h => h) (Or.inl ⟨by rfl, fun w => by go_simp⟩) ?_
              obtain ⟨y, hy, b5, HO⟩ := stores (re := re) (e0 := ep1) (a0 := .slice a1 n1 k1) (b0 := .slice a2 n2 k2) C4.out F4_4.out F5_4.out V4.out hwl
              have HO := hidS HO
              have HB5 := hidS b5
              obtain ⟨⟨t0, t1, t2⟩, t3, t4, t5⟩ := box3 F4_4.out.1
              clear b5 V4 F5_4 C4 F4_4
              refine wpAny_ready (rs := [11]) (by kernel_rfl) (by simp) ?_
              refine AllReady.cons rfl (fun K hK => ?_) AllReady.nil
              go_simp
              refine hK _ _ ?_
              clear hK K t0 t1 t2 t3 t4 t5
              rw [← hy]
              clear hy
              obtain ⟨⟨t0, t1⟩, t3, t4⟩ := box2K HB5.out
              refine wpAny_ready (rs := [12]) (by kernel_rfl) (by simp) ?_
              refine AllReady.cons rfl (fun K hK => ?_) AllReady.nil
              go_simp
              refine hK _ _ ?_
              clear hK K t0 t1 t3 t4
              refine wpAny_ready (rs := [13]) (by kernel_rfl) (by simp) ?_
              refine AllReady.cons rfl (fun K hK => ?_) AllReady.nil
              go_simp
              refine hK _ _ ?_
              clear hK K
              refine wpAny_ready (rs := [14]) (by kernel_rfl) (by simp) ?_
              refine AllReady.cons rfl (fun K hK => ?_) AllReady.nil
              go_simp
              refine hK _ _ ?_
              clear hK K
              refine wpAny_done (by kernel_rfl) ?_ _
              go_wp2_with fail
              go_meet
              exact ⟨_, re, _, wl, code, rfl, rfl, HO⟩
    · go_simp
      refine hK _ _ ?_
      clear hK K
      have C1 := hidS (C0.out.since (one_below x0 (svb 0 (.slice none 0 0) (.slice none 0 0))))
      have F4_1 := hidS (show Blk W x0.heap.size (svb 0 (.slice none 0 0) (.slice none 0 0)) (x0.alloc (svb 0 (.slice none 0 0) (.slice none 0 0))) from ⟨Q.blk_new _ _, Q.blk_lt C0.out.b2⟩)
      clear C0
      generalize x0.alloc (.cells #[.int .i64 0, .slice none 0 0, .slice none 0 0] 83) = x1 at C1 F4_1 ⊢
      generalize x0.heap.size = p4 at F4_1 ⊢
      clear x0
      refine wpAny_ready (rs := [0, 2, 10]) (by kernel_rfl) (by simp) ?_
      refine AllReady.cons rfl (fun K hK => ?_) (AllReady.cons rfl (fun K hK => ?_) (AllReady.cons rfl (fun K hK => ?_) AllReady.nil))
      · obtain ⟨⟨o0, o1, o2⟩, o3, o4, o5⟩ := box3 C1.out.b3
        go_simp
        refine hK _ _ ?_
        clear hK K o0 o1 o2 o3 o4 o5
        refine wpAny_ready (rs := [2, 10]) (by kernel_rfl) (by simp) ?_
        refine AllReady.cons rfl (fun K hK => ?_) (AllReady.cons rfl (fun K hK => ?_) AllReady.nil)
        · go_simp
          refine (drawOp_any B R _ C1.out.rd).mono ?_
          rintro e x2 ⟨k0, m0, rfl, hR0, hg0⟩
          have C2 := hidS (C1.out.read hR0 hg0)
          have F4_2 := hidS (F4_1.out.read hg0 C1.out.rLt)
          clear hR0 hg0 C1 F4_1
          refine hK _ _ ?_
          clear hK K
          refine wpAny_ready (rs := [3, 10]) (by kernel_rfl) (by simp) ?_
          refine AllReady.cons rfl (fun K hK => ?_) (AllReady.cons rfl (fun K hK => ?_) AllReady.nil)
          · go_simp
            refine (specDone_any ep k0 m0 C2.out.i C2.out.s).mono ?_
            rintro e x3 ⟨ep1, X1, Y1, vs1, ss1, re, v1, wl, u1, ks1, code, rfl, hz1, hi1, hs1, hz2, hw1, hwl, hz3, hz4, hb1, hz5⟩
            have C3 := hidS (C2.out.since hb1)
            have F4_3 := hidS (F4_2.out.since hb1)
            have V3 := hidS (wlow hw1 C2.out.gr.size)
            obtain ⟨a1, n1, k1, rfl⟩ := iform hi1
            obtain ⟨a2, n2, k2, rfl⟩ := sform hs1
            obtain ⟨a3, n3, k3, rfl⟩ := wform hw1
            clear hz1 hz2 hz3 hz4 hz5 hi1 hs1 hw1 hb1 C2 F4_2
            refine hK _ _ ?_
            clear hK K
            refine wpAny_take (i := 4) (v := .tuple #[svv ep1 (.slice a1 n1 k1) (.slice a2 n2 k2), rvD re (.slice a3 n3 k3), u1, .int .i64 code]) rfl (by kernel_rfl) (by kernel_rfl) (by kernel_rfl) (fun _ _ _ h => h) (Or.inl ⟨by rfl, fun w => by go_simp⟩) ?_
            refine wpAny_take (i := 5) (v := svv ep1 (.slice a1 n1 k1) (.slice a2 n2 k2)) rfl (by kernel_rfl) (by kernel_rfl) (by kernel_rfl) (fun _ _ _ h => h) (Or.inl ⟨by rfl, fun w => by go_simp⟩) ?_
            refine wpAny_take (i := 6) (v := rvD re (.slice a3 n3 k3)) rfl (by kernel_rfl) (by kernel_rfl) (by kernel_rfl) (fun _ _ _ h => h) (Or.inl ⟨by rfl, fun w => by go_simp⟩) ?_
            refine wpAny_take (i := 7) (v := u1) rfl (by kernel_rfl) (by kernel_rfl) (by kernel_rfl) (fun _ _ _ h => h) (Or.inl ⟨by rfl, fun w => by go_simp⟩) ?_
            refine wpAny_take (i := 8) (v := .int .i64 code) rfl (by kernel_rfl) (by kernel_rfl) (by kernel_rfl) (fun _ _ _ h => h) (Or.inl ⟨by rfl, fun w => by go_simp⟩) ?_
            refine wpAny_ready (rs := [10]) (by kernel_rfl) (by simp) ?_
            refine AllReady.cons rfl (fun K hK => ?_) AllReady.nil
            · go_simp
              refine hK _ _ ?_
              clear hK K
              have C4 := hidS (C3.out.since (one_below x3 (rbD 0 (.slice none 0 0))))
              have F5_4 := hidS (show Blk W x3.heap.size (rbD 0 (.slice none 0 0)) (x3.alloc (rbD 0 (.slice none 0 0))) from ⟨Q.blk_new _ _, Q.blk_lt C3.out.b2⟩)
              have F4_4 := hidS (F4_3.out.since (one_below x3 (rbD 0 (.slice none 0 0))))
              have V4 := hidS (wsince V3.out (one_below x3 (rbD 0 (.slice none 0 0))))
              clear C3 F4_3 V3
              generalize x3.alloc (.cells #[.int .i64 0, .slice none 0 0] 32) = x4 at C4 F5_4 F4_4 V4 ⊢
              generalize x3.heap.size = p5 at F5_4 ⊢
              clear x3
              obtain ⟨y, hy, b5, HO⟩ := stores (re := re) (e0 := ep1) (a0 := .slice a1 n1 k1) (b0 := .slice a2 n2 k2) C4.out F4_4.out F5_4.out V4.out hwl
              have HO := hidS HO
              have HB5 := hidS b5
              obtain ⟨⟨t0, t1, t2⟩, t3, t4, t5⟩ := box3 F4_4.out.1
              clear b5 V4 F5_4 C4 F4_4
              refine wpAny_ready (rs := [11]) (by kernel_rfl) (by simp) ?_
              refine AllReady.cons rfl (fun K hK => ?_) AllReady.nil
              go_simp
              refine hK _ _ ?_
              clear hK K t0 t1 t2 t3 t4 t5
              rw [← hy]
              clear hy
              obtain ⟨⟨t0, t1⟩, t3, t4⟩ := box2K HB5.out
              refine wpAny_ready (rs := [12]) (by kernel_rfl) (by simp) ?_
              refine AllReady.cons rfl (fun K hK => ?_) AllReady.nil
              go_simp
              refine hK _ _ ?_
              clear hK K t0 t1 t3 t4
              refine wpAny_ready (rs := [13]) (by kernel_rfl) (by simp) ?_
              refine AllReady.cons rfl (fun K hK => ?_) AllReady.nil
              go_simp
              refine hK _ _ ?_
              clear hK K
              refine wpAny_ready (rs := [14]) (by kernel_rfl) (by simp) ?_
              refine AllReady.cons rfl (fun K hK => ?_) AllReady.nil
              go_simp
              refine hK _ _ ?_
              clear hK K
              refine wpAny_done (by kernel_rfl) ?_ _
              go_wp2_with fail
              go_meet
              exact ⟨_, re, _, wl, code, rfl, rfl, HO⟩
          · go_simp
            refine hK _ _ ?_
            clear hK K
            have C3 := hidS (C2.out.since (one_below x2 (rbD 0 (.slice none 0 0))))
            have F5_3 := hidS (show Blk W x2.heap.size (rbD 0 (.slice none 0 0)) (x2.alloc (rbD 0 (.slice none 0 0))) from ⟨Q.blk_new _ _, Q.blk_lt C2.out.b2⟩)
            have F4_3 := hidS (F4_2.out.since (one_below x2 (rbD 0 (.slice none 0 0))))
            clear C2 F4_2
            generalize x2.alloc (.cells #[.int .i64 0, .slice none 0 0] 32) = x3 at C3 F5_3 F4_3 ⊢
            generalize x2.heap.size = p5 at F5_3 ⊢
            clear x2
            refine wpAny_ready (rs := [3]) (by kernel_rfl) (by simp) ?_
            refine AllReady.cons rfl (fun K hK => ?_) AllReady.nil
            · go_simp
              refine (specDone_any ep k0 m0 C3.out.i C3.out.s).mono ?_
              rintro e x4 ⟨ep1, X1, Y1, vs1, ss1, re, v1, wl, u1, ks1, code, rfl, hz1, hi1, hs1, hz2, hw1, hwl, hz3, hz4, hb1, hz5⟩
              have C4 := hidS (C3.out.since hb1)
              have F4_4 := hidS (F4_3.out.since hb1)
              have F5_4 := hidS (F5_3.out.since hb1)
              have V4 := hidS (wlow hw1 C3.out.gr.size)
              obtain ⟨a1, n1, k1, rfl⟩ := iform hi1
              obtain ⟨a2, n2, k2, rfl⟩ := sform hs1
              obtain ⟨a3, n3, k3, rfl⟩ := wform hw1
              clear hz1 hz2 hz3 hz4 hz5 hi1 hs1 hw1 hb1 C3 F4_3 F5_3
              refine hK _ _ ?_
              clear hK K
              refine wpAny_take (i := 4) (v := .tuple #[svv ep1 (.slice a1 n1 k1) (.slice a2 n2 k2), rvD re (.slice a3 n3 k3), u1, .int .i64 code]) rfl (by kernel_rfl) (by kernel_rfl) (by kernel_rfl) (fun _ _ _ h => h) (Or.inl ⟨by rfl, fun w => by go_simp⟩) ?_
              refine wpAny_take (i := 5) (v := svv ep1 (.slice a1 n1 k1) (.slice a2 n2 k2)) rfl (by kernel_rfl) (by kernel_rfl) (by kernel_rfl) (fun _ _ _ h => h) (Or.inl ⟨by rfl, fun w => by go_simp⟩) ?_
              refine wpAny_take (i := 6) (v := rvD re (.slice a3 n3 k3)) rfl (by kernel_rfl) (by kernel_rfl) (by kernel_rfl) (fun _ _ _ h => h) (Or.inl ⟨by rfl, fun w => by go_simp⟩) ?_
              refine wpAny_take (i := 7) (v := u1) rfl (by kernel_rfl) (by kernel_rfl) (by kernel_rfl) (fun _ _ _ h => h) (Or.inl ⟨by rfl, fun w => by go_simp⟩) ?_
              refine wpAny_take (i := 8) (v := .int .i64 code) rfl (by kernel_rfl) (by kernel_rfl) (by kernel_rfl) (fun _ _ _ h => h) (Or.inl ⟨by rfl, fun w => by go_simp⟩) ?_
              obtain ⟨y, hy, b5, HO⟩ := stores (re := re) (e0 := ep1) (a0 := .slice a1 n1 k1) (b0 := .slice a2 n2 k2) C4.out F4_4.out F5_4.out V4.out hwl
              have HO := hidS HO
              have HB5 := hidS b5
              obtain ⟨⟨t0, t1, t2⟩, t3, t4, t5⟩ := box3 F4_4.out.1
              clear b5 V4 F5_4 C4 F4_4
              refine wpAny_ready (rs := [11]) (by kernel_rfl) (by simp) ?_
              refine AllReady.cons rfl (fun K hK => ?_) AllReady.nil
              go_simp
              refine hK _ _ ?_
              clear hK K t0 t1 t2 t3 t4 t5
              rw [← hy]
              clear hy
              obtain ⟨⟨t0, t1⟩, t3, t4⟩ := box2K HB5.out
              refine wpAny_ready (rs := [12]) (by kernel_rfl) (by simp) ?_
              refine AllReady.cons rfl (fun K hK => ?_) AllReady.nil
              go_simp
              refine hK _ _ ?_
              clear hK K t0 t1 t3 t4
              refine wpAny_ready (rs := [13]) (by kernel_rfl) (by simp) ?_
              refine AllReady.cons rfl (fun K hK => ?_) AllReady.nil
              go_simp
              refine hK _ _ ?_
              clear hK K
              refine wpAny_ready (rs := [14]) (by kernel_rfl) (by simp) ?_
              refine AllReady.cons rfl (fun K hK => ?_) AllReady.nil
              go_simp
              refine hK _ _ ?_
              clear hK K
              refine wpAny_done (by kernel_rfl) ?_ _
              go_wp2_with fail
              go_meet
              exact ⟨_, re, _, wl, code, rfl, rfl, HO⟩
        · go_simp
          refine hK _ _ ?_
          clear hK K
          have C2 := hidS (C1.out.since (one_below x1 (rbD 0 (.slice none 0 0))))
          have F5_2 := hidS (show Blk W x1.heap.size (rbD 0 (.slice none 0 0)) (x1.alloc (rbD 0 (.slice none 0 0))) from ⟨Q.blk_new _ _, Q.blk_lt C1.out.b2⟩)
          have F4_2 := hidS (F4_1.out.since (one_below x1 (rbD 0 (.slice none 0 0))))
          clear C1 F4_1
          generalize x1.alloc (.cells #[.int .i64 0, .slice none 0 0] 32) = x2 at C2 F5_2 F4_2 ⊢
          generalize x1.heap.size = p5 at F5_2 ⊢
          clear x1
          refine wpAny_ready (rs := [2]) (by kernel_rfl) (by simp) ?_
          refine AllReady.cons rfl (fun K hK => ?_) AllReady.nil
          · go_simp
            refine (drawOp_any B R _ C2.out.rd).mono ?_
            rintro e x3 ⟨k0, m0, rfl, hR0, hg0⟩
            have C3 := hidS (C2.out.read hR0 hg0)
            have F4_3 := hidS (F4_2.out.read hg0 C2.out.rLt)
            have F5_3 := hidS (F5_2.out.read hg0 C2.out.rLt)
            clear hR0 hg0 C2 F4_2 F5_2
            refine hK _ _ ?_
            clear hK K
            refine wpAny_ready (rs := [3]) (by kernel_rfl) (by simp) ?_
            refine AllReady.cons rfl (fun K hK => ?_) AllReady.nil
            · go_simp
              refine (specDone_any ep k0 m0 C3.out.i C3.out.s).mono ?_
              rintro e x4 ⟨ep1, X1, Y1, vs1, ss1, re, v1, wl, u1, ks1, code, rfl, hz1, hi1, hs1, hz2, hw1, hwl, hz3, hz4, hb1, hz5⟩
              have C4 := hidS (C3.out.since hb1)
              have F4_4 := hidS (F4_3.out.since hb1)
              have F5_4 := hidS (F5_3.out.since hb1)
              have V4 := hidS (wlow hw1 C3.out.gr.size)
              obtain ⟨a1, n1, k1, rfl⟩ := iform hi1
              obtain ⟨a2, n2, k2, rfl⟩ := sform hs1
              obtain ⟨a3, n3, k3, rfl⟩ := wform hw1
              clear hz1 hz2 hz3 hz4 hz5 hi1 hs1 hw1 hb1 C3 F4_3 F5_3
              refine hK _ _ ?_
              clear hK K
              refine wpAny_take (i := 4) (v := .tuple #[svv ep1 (.slice a1 n1 k1) (.slice a2 n2 k2), rvD re (.slice a3 n3 k3), u1, .int .i64 code]) rfl (by kernel_rfl) (by kernel_rfl) (by kernel_rfl) (fun _ _ _ h => h) (Or.inl ⟨by rfl, fun w => by go_simp⟩) ?_
              refine wpAny_take (i := 5) (v := svv ep1 (.slice a1 n1 k1) (.slice a2 n2 k2)) rfl (by kernel_rfl) (by kernel_rfl) (by kernel_rfl) (fun _ _ _ h => h) (Or.inl ⟨by rfl, fun w => by go_simp⟩) ?_
              refine wpAny_take (i := 6) (v := rvD re (.slice a3 n3 k3)) rfl (by kernel_rfl) (by kernel_rfl) (by kernel_rfl) (fun _ _ _ h => h) (Or.inl ⟨by rfl, fun w => by go_simp⟩) ?_
              refine wpAny_take (i := 7) (v := u1) rfl (by kernel_rfl) (by kernel_rfl) (by kernel_rfl) (fun _ _ _ h => h) (Or.inl ⟨by rfl, fun w => by go_simp⟩) ?_
              refine wpAny_take (i := 8) (v := .int .i64 code) rfl (by kernel_rfl) (by kernel_rfl) (by kernel_rfl) (fun _ _ _ h => h) (Or.inl ⟨by rfl, fun w => by go_simp⟩) ?_
              obtain ⟨y, hy, b5, HO⟩ := stores (re := re) (e0 := ep1) (a0 := .slice a1 n1 k1) (b0 := .slice a2 n2 k2) C4.out F4_4.out F5_4.out V4.out hwl
              have HO := hidS HO
              have HB5 := hidS b5
              obtain ⟨⟨t0, t1, t2⟩, t3, t4, t5⟩ := box3 F4_4.out.1
              clear b5 V4 F5_4 C4 F4_4
              refine wpAny_ready (rs := [11]) (by kernel_rfl) (by simp) ?_
              refine AllReady.cons rfl (fun K hK => ?_) AllReady.nil
              go_simp
              refine hK _ _ ?_
              clear hK K t0 t1 t2 t3 t4 t5
              rw [← hy]
              clear hy
              obtain ⟨⟨t0, t1⟩, t3, t4⟩ := box2K HB5.out
              refine wpAny_ready (rs := [12]) (by kernel_rfl) (by simp) ?_
              refine AllReady.cons rfl (fun K hK => ?_) AllReady.nil
              go_simp
              refine hK _ _ ?_
              clear hK K t0 t1 t3 t4
              refine wpAny_ready (rs := [13]) (by kernel_rfl) (by simp) ?_
              refine AllReady.cons rfl (fun K hK => ?_) AllReady.nil
              go_simp
              refine hK _ _ ?_
              clear hK K
              refine wpAny_ready (rs := [14]) (by kernel_rfl) (by simp) ?_
              refine AllReady.cons rfl (fun K hK => ?_) AllReady.nil
              go_simp
              refine hK _ _ ?_
              clear hK K
              refine wpAny_done (by kernel_rfl) ?_ _
              go_wp2_with fail
              go_meet
              exact ⟨_, re, _, wl, code, rfl, rfl, HO⟩
      · go_simp
        refine (drawOp_any B R _ C1.out.rd).mono ?_
        rintro e x2 ⟨k0, m0, rfl, hR0, hg0⟩
        have C2 := hidS (C1.out.read hR0 hg0)
        have F4_2 := hidS (F4_1.out.read hg0 C1.out.rLt)
        clear hR0 hg0 C1 F4_1
        refine hK _ _ ?_
        clear hK K
        refine wpAny_ready (rs := [0, 10]) (by kernel_rfl) (by simp) ?_
        refine AllReady.cons rfl (fun K hK => ?_) (AllReady.cons rfl (fun K hK => ?_) AllReady.nil)
        · obtain ⟨⟨o0, o1, o2⟩, o3, o4, o5⟩ := box3 C2.out.b3
          go_simp
          refine hK _ _ ?_
          clear hK K o0 o1 o2 o3 o4 o5
          refine wpAny_ready (rs := [3, 10]) (by kernel_rfl) (by simp) ?_
          refine AllReady.cons rfl (fun K hK => ?_) (AllReady.cons rfl (fun K hK => ?_) AllReady.nil)
          · go_simp
            refine (specDone_any ep k0 m0 C2.out.i C2.out.s).mono ?_
            rintro e x3 ⟨ep1, X1, Y1, vs1, ss1, re, v1, wl, u1, ks1, code, rfl, hz1, hi1, hs1, hz2, hw1, hwl, hz3, hz4, hb1, hz5⟩
            have C3 := hidS (C2.out.since hb1)
            have F4_3 := hidS (F4_2.out.since hb1)
            have V3 := hidS (wlow hw1 C2.out.gr.size)
            obtain ⟨a1, n1, k1, rfl⟩ := iform hi1
            obtain ⟨a2, n2, k2, rfl⟩ := sform hs1
            obtain ⟨a3, n3, k3, rfl⟩ := wform hw1
            clear hz1 hz2 hz3 hz4 hz5 hi1 hs1 hw1 hb1 C2 F4_2
            refine hK _ _ ?_
            clear hK K
            refine wpAny_take (i := 4) (v := .tuple #[svv ep1 (.slice a1 n1 k1) (.slice a2 n2 k2), rvD re (.slice a3 n3 k3), u1, .int .i64 code]) rfl (by kernel_rfl) (by kernel_rfl) (by kernel_rfl) (fun _ _ _ h => h) (Or.inl ⟨by rfl, fun w => by go_simp⟩) ?_
            refine wpAny_take (i := 5) (v := svv ep1 (.slice a1 n1 k1) (.slice a2 n2 k2)) rfl (by kernel_rfl) (by kernel_rfl) (by kernel_rfl) (fun _ _ _ h => h) (Or.inl ⟨by rfl, fun w => by go_simp⟩) ?_
            refine wpAny_take (i := 6) (v := rvD re (.slice a3 n3 k3)) rfl (by kernel_rfl) (by kernel_rfl) (by kernel_rfl) (fun _ _ _ h => h) (Or.inl ⟨by rfl, fun w => by go_simp⟩) ?_
            refine wpAny_take (i := 7) (v := u1) rfl (by kernel_rfl) (by kernel_rfl) (by kernel_rfl) (fun _ _ _ h => h) (Or.inl ⟨by rfl, fun w => by go_simp⟩) ?_
            refine wpAny_take (i := 8) (v := .int .i64 code) rfl (by kernel_rfl) (by kernel_rfl) (by kernel_rfl) (fun _ _ _ h => h) (Or.inl ⟨by rfl, fun w => by go_simp⟩) ?_
            refine wpAny_ready (rs := [10]) (by kernel_rfl) (by simp) ?_
            refine AllReady.cons rfl (fun K hK => ?_) AllReady.nil
            · go_simp
              refine hK _ _ ?_
              clear hK K
              have C4 := hidS (C3.out.since (one_below x3 (rbD 0 (.slice none 0 0))))
              have F5_4 := hidS (show Blk W x3.heap.size (rbD 0 (.slice none 0 0)) (x3.alloc (rbD 0 (.slice none 0 0))) from ⟨Q.blk_new _ _, Q.blk_lt C3.out.b2⟩)
              have F4_4 := hidS (F4_3.out.since (one_below x3 (rbD 0 (.slice none 0 0))))
              have V4 := hidS (wsince V3.out (one_below x3 (rbD 0 (.slice none 0 0))))
              clear C3 F4_3 V3
              generalize x3.alloc (.cells #[.int .i64 0, .slice none 0 0] 32) = x4 at C4 F5_4 F4_4 V4 ⊢
              generalize x3.heap.size = p5 at F5_4 ⊢
              clear x3
              obtain ⟨y, hy, b5, HO⟩ := stores (re := re) (e0 := ep1) (a0 := .slice a1 n1 k1) (b0 := .slice a2 n2 k2) C4.out F4_4.out F5_4.out V4.out hwl
              have HO := hidS HO
              have HB5 := hidS b5
              obtain ⟨⟨t0, t1, t2⟩, t3, t4, t5⟩ := box3 F4_4.out.1
              clear b5 V4 F5_4 C4 F4_4
              refine wpAny_ready (rs := [11]) (by kernel_rfl) (by simp) ?_
              refine AllReady.cons rfl (fun K hK => ?_) AllReady.nil
              go_simp
              refine hK _ _ ?_
              clear hK K t0 t1 t2 t3 t4 t5
              rw [← hy]
              clear hy
              obtain ⟨⟨t0, t1⟩, t3, t4⟩ := box2K HB5.out
              refine wpAny_ready (rs := [12]) (by kernel_rfl) (by simp) ?_
              refine AllReady.cons rfl (fun K hK => ?_) AllReady.nil
              go_simp
              refine hK _ _ ?_
              clear hK K t0 t1 t3 t4
              refine wpAny_ready (rs := [13]) (by kernel_rfl) (by simp) ?_
              refine AllReady.cons rfl (fun K hK => ?_) AllReady.nil
              go_simp
              refine hK _ _ ?_
              clear hK K
              refine wpAny_ready (rs := [14]) (by kernel_rfl) (by simp) ?_
              refine AllReady.cons rfl (fun K hK => ?_) AllReady.nil
              go_simp
              refine hK _ _ ?_
              clear hK K
              refine wpAny_done (by kernel_rfl) ?_ _
              go_wp2_with fail
              go_meet
              exact ⟨_, re, _, wl, code, rfl, rfl, HO⟩
          · go_simp
            refine hK _ _ ?_
            clear hK K
            have C3 := hidS (C2.out.since (one_below x2 (rbD 0 (.slice none 0 0))))
            have F5_3 := hidS (show Blk W x2.heap.size (rbD 0 (.slice none 0 0)) (x2.alloc (rbD 0 (.slice none 0 0))) from ⟨Q.blk_new _ _, Q.blk_lt C2.out.b2⟩)
            have F4_3 := hidS (F4_2.out.since (one_below x2 (rbD 0 (.slice none 0 0))))
            clear C2 F4_2
            generalize x2.alloc (.cells #[.int .i64 0, .slice none 0 0] 32) = x3 at C3 F5_3 F4_3 ⊢
            generalize x2.heap.size = p5 at F5_3 ⊢
            clear x2
            refine wpAny_ready (rs := [3]) (by kernel_rfl) (by simp) ?_
            refine AllReady.cons rfl (fun K hK => ?_) AllReady.nil
            · go_simp
              refine (specDone_any ep k0 m0 C3.out.i C3.out.s).mono ?_
              rintro e x4 ⟨ep1, X1, Y1, vs1, ss1, re, v1, wl, u1, ks1, code, rfl, hz1, hi1, hs1, hz2, hw1, hwl, hz3, hz4, hb1, hz5⟩
              have C4 := hidS (C3.out.since hb1)
              have F4_4 := hidS (F4_3.out.since hb1)
              have F5_4 := hidS (F5_3.out.since hb1)
              have V4 := hidS (wlow hw1 C3.out.gr.size)
              obtain ⟨a1, n1, k1, rfl⟩ := iform hi1
              obtain ⟨a2, n2, k2, rfl⟩ := sform hs1
              obtain ⟨a3, n3, k3, rfl⟩ := wform hw1
              clear hz1 hz2 hz3 hz4 hz5 hi1 hs1 hw1 hb1 C3 F4_3 F5_3
              refine hK _ _ ?_
              clear hK K
              refine wpAny_take (i := 4) (v := .tuple #[svv ep1 (.slice a1 n1 k1) (.slice a2 n2 k2), rvD re (.slice a3 n3 k3), u1, .int .i64 code]) rfl (by kernel_rfl) (by kernel_rfl) (by kernel_rfl) (fun _ _ _ h => h) (Or.inl ⟨by rfl, fun w => by go_simp⟩) ?_
              refine wpAny_take (i := 5) (v := svv ep1 (.slice a1 n1 k1) (.slice a2 n2 k2)) rfl (by kernel_rfl) (by kernel_rfl) (by kernel_rfl) (fun _ _ _ h => h) (Or.inl ⟨by rfl, fun w => by go_simp⟩) ?_
              refine wpAny_take (i := 6) (v := rvD re (.slice a3 n3 k3)) rfl (by kernel_rfl) (by kernel_rfl) (by kernel_rfl) (fun _ _ _ h => h) (Or.inl ⟨by rfl, fun w => by go_simp⟩) ?_
              refine wpAny_take (i := 7) (v := u1) rfl (by kernel_rfl) (by kernel_rfl) (by kernel_rfl) (fun _ _ _ h => h) (Or.inl ⟨by rfl, fun w => by go_simp⟩) ?_
              refine wpAny_take (i := 8) (v := .int .i64 code) rfl (by kernel_rfl) (by kernel_rfl) (by kernel_rfl) (fun _ _ _ h => h) (Or.inl ⟨by rfl, fun w => by go_simp⟩) ?_
              obtain ⟨y, hy, b5, HO⟩ := stores (re := re) (e0 := ep1) (a0 := .slice a1 n1 k1) (b0 := .slice a2 n2 k2) C4.out F4_4.out F5_4.out V4.out hwl
              have HO := hidS HO
              have HB5 := hidS b5
              obtain ⟨⟨t0, t1, t2⟩, t3, t4, t5⟩ := box3 F4_4.out.1
              clear b5 V4 F5_4 C4 F4_4
              refine wpAny_ready (rs := [11]) (by kernel_rfl) (by simp) ?_
              refine AllReady.cons rfl (fun K hK => ?_) AllReady.nil
              go_simp
              refine hK _ _ ?_
              clear hK K t0 t1 t2 t3 t4 t5
              rw [← hy]
              clear hy
              obtain ⟨⟨t0, t1⟩, t3, t4⟩ := box2K HB5.out
              refine wpAny_ready (rs := [12]) (by kernel_rfl) (by simp) ?_
              refine AllReady.cons rfl (fun K hK => ?_) AllReady.nil
              go_simp
              refine hK _ _ ?_
              clear hK K t0 t1 t3 t4
              refine wpAny_ready (rs := [13]) (by kernel_rfl) (by simp) ?_
              refine AllReady.cons rfl (fun K hK => ?_) AllReady.nil
              go_simp
              refine hK _ _ ?_
              clear hK K
              refine wpAny_ready (rs := [14]) (by kernel_rfl) (by simp) ?_
              refine AllReady.cons rfl (fun K hK => ?_) AllReady.nil
              go_simp
              refine hK _ _ ?_
              clear hK K
              refine wpAny_done (by kernel_rfl) ?_ _
              go_wp2_with fail
              go_meet
              exact ⟨_, re, _, wl, code, rfl, rfl, HO⟩
        · go_simp
          refine hK _ _ ?_
          clear hK K
          have C3 := hidS (C2.out.since (one_below x2 (rbD 0 (.slice none 0 0))))
          have F5_3 := hidS (show Blk W x2.heap.size (rbD 0 (.slice none 0 0)) (x2.alloc (rbD 0 (.slice none 0 0))) from ⟨Q.blk_new _ _, Q.blk_lt C2.out.b2⟩)
          have F4_3 := hidS (F4_2.out.since (one_below x2 (rbD 0 (.slice none 0 0))))
          clear C2 F4_2
          generalize x2.alloc (.cells #[.int .i64 0, .slice none 0 0] 32) = x3 at C3 F5_3 F4_3 ⊢
          generalize x2.heap.size = p5 at F5_3 ⊢
          clear x2
          refine wpAny_ready (rs := [0]) (by kernel_rfl) (by simp) ?_
          refine AllReady.cons rfl (fun K hK => ?_) AllReady.nil
          · obtain ⟨⟨o0, o1, o2⟩, o3, o4, o5⟩ := box3 C3.out.b3
            go_simp
            refine hK _ _ ?_
            clear hK K o0 o1 o2 o3 o4 o5
            refine wpAny_ready (rs := [3]) (by kernel_rfl) (by simp) ?_
            refine AllReady.cons rfl (fun K hK => ?_) AllReady.nil
            · go_simp
              refine (specDone_any ep k0 m0 C3.out.i C3.out.s).mono ?_
              rintro e x4 ⟨ep1, X1, Y1, vs1, ss1, re, v1, wl, u1, ks1, code, rfl, hz1, hi1, hs1, hz2, hw1, hwl, hz3, hz4, hb1, hz5⟩
              have C4 := hidS (C3.out.since hb1)
              have F4_4 := hidS (F4_3.out.since hb1)
              have F5_4 := hidS (F5_3.out.since hb1)
              have V4 := hidS (wlow hw1 C3.out.gr.size)
              obtain ⟨a1, n1, k1, rfl⟩ := iform hi1
              obtain ⟨a2, n2, k2, rfl⟩ := sform hs1
              obtain ⟨a3, n3, k3, rfl⟩ := wform hw1
              clear hz1 hz2 hz3 hz4 hz5 hi1 hs1 hw1 hb1 C3 F4_3 F5_3
              refine hK _ _ ?_
              clear hK K
              refine wpAny_take (i := 4) (v := .tuple #[svv ep1 (.slice a1 n1 k1) (.slice a2 n2 k2), rvD re (.slice a3 n3 k3), u1, .int .i64 code]) rfl (by kernel_rfl) (by kernel_rfl) (by kernel_rfl) (fun _ _ _ h => h) (Or.inl ⟨by rfl, fun w => by go_simp⟩) ?_
              refine wpAny_take (i := 5) (v := svv ep1 (.slice a1 n1 k1) (.slice a2 n2 k2)) rfl (by kernel_rfl) (by kernel_rfl) (by kernel_rfl) (fun _ _ _ h => h) (Or.inl ⟨by rfl, fun w => by go_simp⟩) ?_
              refine wpAny_take (i := 6) (v := rvD re (.slice a3 n3 k3)) rfl (by kernel_rfl) (by kernel_rfl) (by kernel_rfl) (fun _ _ _ h => h) (Or.inl ⟨by rfl, fun w => by go_simp⟩) ?_
              refine wpAny_take (i := 7) (v := u1) rfl (by kernel_rfl) (by kernel_rfl) (by kernel_rfl) (fun _ _ _ h => h) (Or.inl ⟨by rfl, fun w => by go_simp⟩) ?_
              refine wpAny_take (i := 8) (v := .int .i64 code) rfl (by kernel_rfl) (by kernel_rfl) (by kernel_rfl) (fun _ _ _ h => h) (Or.inl ⟨by rfl, fun w => by go_simp⟩) ?_
              obtain ⟨y, hy, b5, HO⟩ := stores (re := re) (e0 := ep1) (a0 := .slice a1 n1 k1) (b0 := .slice a2 n2 k2) C4.out F4_4.out F5_4.out V4.out hwl
              have HO := hidS HO
              have HB5 := hidS b5
              obtain ⟨⟨t0, t1, t2⟩, t3, t4, t5⟩ := box3 F4_4.out.1
              clear b5 V4 F5_4 C4 F4_4
              refine wpAny_ready (rs := [11]) (by kernel_rfl) (by simp) ?_
              refine AllReady.cons rfl (fun K hK => ?_) AllReady.nil
              go_simp
              refine hK _ _ ?_
              clear hK K t0 t1 t2 t3 t4 t5
              rw [← hy]
              clear hy
              obtain ⟨⟨t0, t1⟩, t3, t4⟩ := box2K HB5.out
              refine wpAny_ready (rs := [12]) (by kernel_rfl) (by simp) ?_
              refine AllReady.cons rfl (fun K hK => ?_) AllReady.nil
              go_simp
              refine hK _ _ ?_
              clear hK K t0 t1 t3 t4
              refine wpAny_ready (rs := [13]) (by kernel_rfl) (by simp) ?_
              refine AllReady.cons rfl (fun K hK => ?_) AllReady.nil
              go_simp
              refine hK _ _ ?_
              clear hK K
              refine wpAny_ready (rs := [14]) (by kernel_rfl) (by simp) ?_
              refine AllReady.cons rfl (fun K hK => ?_) AllReady.nil
              go_simp
              refine hK _ _ ?_
              clear hK K
              refine wpAny_done (by kernel_rfl) ?_ _
              go_wp2_with fail
              go_meet
              exact ⟨_, re, _, wl, code, rfl, rfl, HO⟩
      · go_simp
        refine hK _ _ ?_
        clear hK K
        have C2 := hidS (C1.out.since (one_below x1 (rbD 0 (.slice none 0 0))))
        have F5_2 := hidS (show Blk W x1.heap.size (rbD 0 (.slice none 0 0)) (x1.alloc (rbD 0 (.slice none 0 0))) from ⟨Q.blk_new _ _, Q.blk_lt C1.out.b2⟩)
        have F4_2 := hidS (F4_1.out.since (one_below x1 (rbD 0 (.slice none 0 0))))
        clear C1 F4_1
        generalize x1.alloc (.cells #[.int .i64 0, .slice none 0 0] 32) = x2 at C2 F5_2 F4_2 ⊢
        generalize x1.heap.size = p5 at F5_2 ⊢
        clear x1
        refine wpAny_ready (rs := [0, 2]) (by kernel_rfl) (by simp) ?_
        refine AllReady.cons rfl (fun K hK => ?_) (AllReady.cons rfl (fun K hK => ?_) AllReady.nil)
        · obtain ⟨⟨o0, o1, o2⟩, o3, o4, o5⟩ := box3 C2.out.b3
          go_simp
          refine hK _ _ ?_
          clear hK K o0 o1 o2 o3 o4 o5
          refine wpAny_ready (rs := [2]) (by kernel_rfl) (by simp) ?_
          refine AllReady.cons rfl (fun K hK => ?_) AllReady.nil
          · go_simp
            refine (drawOp_any B R _ C2.out.rd).mono ?_
            rintro e x3 ⟨k0, m0, rfl, hR0, hg0⟩
            have C3 := hidS (C2.out.read hR0 hg0)
            have F4_3 := hidS (F4_2.out.read hg0 C2.out.rLt)
            have F5_3 := hidS (F5_2.out.read hg0 C2.out.rLt)
            clear hR0 hg0 C2 F4_2 F5_2
            refine hK _ _ ?_
            clear hK K
            refine wpAny_ready (rs := [3]) (by kernel_rfl) (by simp) ?_
            refine AllReady.cons rfl (fun K hK => ?_) AllReady.nil
            · go_simp
              refine (specDone_any ep k0 m0 C3.out.i C3.out.s).mono ?_
              rintro e x4 ⟨ep1, X1, Y1, vs1, ss1, re, v1, wl, u1, ks1, code, rfl, hz1, hi1, hs1, hz2, hw1, hwl, hz3, hz4, hb1, hz5⟩
              have C4 := hidS (C3.out.since hb1)
              have F4_4 := hidS (F4_3.out.since hb1)
              have F5_4 := hidS (F5_3.out.since hb1)
              have V4 := hidS (wlow hw1 C3.out.gr.size)
              obtain ⟨a1, n1, k1, rfl⟩ := iform hi1
              obtain ⟨a2, n2, k2, rfl⟩ := sform hs1
              obtain ⟨a3, n3, k3, rfl⟩ := wform hw1
              clear hz1 hz2 hz3 hz4 hz5 hi1 hs1 hw1 hb1 C3 F4_3 F5_3
              refine hK _ _ ?_
              clear hK K
              refine wpAny_take (i := 4) (v := .tuple #[svv ep1 (.slice a1 n1 k1) (.slice a2 n2 k2), rvD re (.slice a3 n3 k3), u1, .int .i64 code]) rfl (by kernel_rfl) (by kernel_rfl) (by kernel_rfl) (fun _ _ _ h => h) (Or.inl ⟨by rfl, fun w => by go_simp⟩) ?_
              refine wpAny_take (i := 5) (v := svv ep1 (.slice a1 n1 k1) (.slice a2 n2 k2)) rfl (by kernel_rfl) (by kernel_rfl) (by kernel_rfl) (fun _ _ _ h => h) (Or.inl ⟨by rfl, fun w => by go_simp⟩) ?_
              refine wpAny_take (i := 6) (v := rvD re (.slice a3 n3 k3)) rfl (by kernel_rfl) (by kernel_rfl) (by kernel_rfl) (fun _ _ _ h => h) (Or.inl ⟨by rfl, fun w => by go_simp⟩) ?_
              refine wpAny_take (i := 7) (v := u1) rfl (by kernel_rfl) (by kernel_rfl) (by kernel_rfl) (fun _ _ _ h => h) (Or.inl ⟨by rfl, fun w => by go_simp⟩) ?_
              refine wpAny_take (i := 8) (v := .int .i64 code) rfl (by kernel_rfl) (by kernel_rfl) (by kernel_rfl) (fun _ _ _ h => h) (Or.inl ⟨by rfl, fun w => by go_simp⟩) ?_
              obtain ⟨y, hy, b5, HO⟩ := stores (re := re) (e0 := ep1) (a0 := .slice a1 n1 k1) (b0 := .slice a2 n2 k2) C4.out F4_4.out F5_4.out V4.out hwl
              have HO := hidS HO
              have HB5 := hidS b5
              obtain ⟨⟨t0, t1, t2⟩, t3, t4, t5⟩ := box3 F4_4.out.1
              clear b5 V4 F5_4 C4 F4_4
              refine wpAny_ready (rs := [11]) (by kernel_rfl) (by simp) ?_
              refine AllReady.cons rfl (fun K hK => ?_) AllReady.nil
              go_simp
              refine hK _ _ ?_
              clear hK K t0 t1 t2 t3 t4 t5
              rw [← hy]
              clear hy
              obtain ⟨⟨t0, t1⟩, t3, t4⟩ := box2K HB5.out
              refine wpAny_ready (rs := [12]) (by kernel_rfl) (by simp) ?_
              refine AllReady.cons rfl (fun K hK => ?_) AllReady.nil
              go_simp
              refine hK _ _ ?_
              clear hK K t0 t1 t3 t4
              refine wpAny_ready (rs := [13]) (by kernel_rfl) (by simp) ?_
              refine AllReady.cons rfl (fun K hK => ?_) AllReady.nil
              go_simp
              refine hK _ _ ?_
              clear hK K
              refine wpAny_ready (rs := [14]) (by kernel_rfl) (by simp) ?_
              refine AllReady.cons rfl (fun K hK => ?_) AllReady.nil
              go_simp
              refine hK _ _ ?_
              clear hK K
              refine wpAny_done (by kernel_rfl) ?_ _
              go_wp2_with fail
              go_meet
              exact ⟨_, re, _, wl, code, rfl, rfl, HO⟩
        · go_simp
          refine (drawOp_any B R _ C2.out.rd).mono ?_
          rintro e x3 ⟨k0, m0, rfl, hR0, hg0⟩
          have C3 := hidS (C2.out.read hR0 hg0)
          have F4_3 := hidS (F4_2.out.read hg0 C2.out.rLt)
          have F5_3 := hidS (F5_2.out.read hg0 C2.out.rLt)
          clear hR0 hg0 C2 F4_2 F5_2
          refine hK _ _ ?_
          clear hK K
          refine wpAny_ready (rs := [0]) (by kernel_rfl) (by simp) ?_
          refine AllReady.cons rfl (fun K hK => ?_) AllReady.nil
          · obtain ⟨⟨o0, o1, o2⟩, o3, o4, o5⟩ := box3 C3.out.b3
            go_simp
            refine hK _ _ ?_
            clear hK K o0 o1 o2 o3 o4 o5
            refine wpAny_ready (rs := [3]) (by kernel_rfl) (by simp) ?_
            refine AllReady.cons rfl (fun K hK => ?_) AllReady.nil
            · go_simp
              refine (specDone_any ep k0 m0 C3.out.i C3.out.s).mono ?_
              rintro e x4 ⟨ep1, X1, Y1, vs1, ss1, re, v1, wl, u1, ks1, code, rfl, hz1, hi1, hs1, hz2, hw1, hwl, hz3, hz4, hb1, hz5⟩
              have C4 := hidS (C3.out.since hb1)
              have F4_4 := hidS (F4_3.out.since hb1)
              have F5_4 := hidS (F5_3.out.since hb1)
              have V4 := hidS (wlow hw1 C3.out.gr.size)
              obtain ⟨a1, n1, k1, rfl⟩ := iform hi1
              obtain ⟨a2, n2, k2, rfl⟩ := sform hs1
              obtain ⟨a3, n3, k3, rfl⟩ := wform hw1
              clear hz1 hz2 hz3 hz4 hz5 hi1 hs1 hw1 hb1 C3 F4_3 F5_3
              refine hK _ _ ?_
              clear hK K
              refine wpAny_take (i := 4) (v := .tuple #[svv ep1 (.slice a1 n1 k1) (.slice a2 n2 k2), rvD re (.slice a3 n3 k3), u1, .int .i64 code]) rfl (by kernel_rfl) (by kernel_rfl) (by kernel_rfl) (fun _ _ _ h => h) (Or.inl ⟨by rfl, fun w => by go_simp⟩) ?_
              refine wpAny_take (i := 5) (v := svv ep1 (.slice a1 n1 k1) (.slice a2 n2 k2)) rfl (by kernel_rfl) (by kernel_rfl) (by kernel_rfl) (fun _ _ _ h => h) (Or.inl ⟨by rfl, fun w => by go_simp⟩) ?_
              refine wpAny_take (i := 6) (v := rvD re (.slice a3 n3 k3)) rfl (by kernel_rfl) (by kernel_rfl) (by kernel_rfl) (fun _ _ _ h => h) (Or.inl ⟨by rfl, fun w => by go_simp⟩) ?_
              refine wpAny_take (i := 7) (v := u1) rfl (by kernel_rfl) (by kernel_rfl) (by kernel_rfl) (fun _ _ _ h => h) (Or.inl ⟨by rfl, fun w => by go_simp⟩) ?_
              refine wpAny_take (i := 8) (v := .int .i64 code) rfl (by kernel_rfl) (by kernel_rfl) (by kernel_rfl) (fun _ _ _ h => h) (Or.inl ⟨by rfl, fun w => by go_simp⟩) ?_
              obtain ⟨y, hy, b5, HO⟩ := stores (re := re) (e0 := ep1) (a0 := .slice a1 n1 k1) (b0 := .slice a2 n2 k2) C4.out F4_4.out F5_4.out V4.out hwl
              have HO := hidS HO
              have HB5 := hidS b5
              obtain ⟨⟨t0, t1, t2⟩, t3, t4, t5⟩ := box3 F4_4.out.1
              clear b5 V4 F5_4 C4 F4_4
              refine wpAny_ready (rs := [11]) (by kernel_rfl) (by simp) ?_
              refine AllReady.cons rfl (fun K hK => ?_) AllReady.nil
              go_simp
              refine hK _ _ ?_
              clear hK K t0 t1 t2 t3 t4 t5
              rw [← hy]
              clear hy
              obtain ⟨⟨t0, t1⟩, t3, t4⟩ := box2K HB5.out
              refine wpAny_ready (rs := [12]) (by kernel_rfl) (by simp) ?_
              refine AllReady.cons rfl (fun K hK => ?_) AllReady.nil
              go_simp
              refine hK _ _ ?_
              clear hK K t0 t1 t3 t4
              refine wpAny_ready (rs := [13]) (by kernel_rfl) (by simp) ?_
              refine AllReady.cons rfl (fun K hK => ?_) AllReady.nil
              go_simp
              refine hK _ _ ?_
              clear hK K
              refine wpAny_ready (rs := [14]) (by kernel_rfl) (by simp) ?_
              refine AllReady.cons rfl (fun K hK => ?_) AllReady.nil
              go_simp
              refine hK _ _ ?_
              clear hK K
              refine wpAny_done (by kernel_rfl) ?_ _
              go_wp2_with fail
              go_meet
              exact ⟨_, re, _, wl, code, rfl, rfl, HO⟩
    · go_simp
      refine hK _ _ ?_
      clear hK K
      have C1 := hidS (C0.out.since (one_below x0 (rbD 0 (.slice none 0 0))))
      have F5_1 := hidS (show Blk W x0.heap.size (rbD 0 (.slice none 0 0)) (x0.alloc (rbD 0 (.slice none 0 0))) from ⟨Q.blk_new _ _, Q.blk_lt C0.out.b2⟩)
      clear C0
      generalize x0.alloc (.cells #[.int .i64 0, .slice none 0 0] 32) = x1 at C1 F5_1 ⊢
      generalize x0.heap.size = p5 at F5_1 ⊢
      clear x0
      refine wpAny_ready (rs := [0, 2, 9]) (by kernel_rfl) (by simp) ?_
      refine AllReady.cons rfl (fun K hK => ?_) (AllReady.cons rfl (fun K hK => ?_) (AllReady.cons rfl (fun K hK => ?_) AllReady.nil))
      · obtain ⟨⟨o0, o1, o2⟩, o3, o4, o5⟩ := box3 C1.out.b3
        go_simp
        refine hK _ _ ?_
        clear hK K o0 o1 o2 o3 o4 o5
        refine wpAny_ready (rs := [2, 9]) (by kernel_rfl) (by simp) ?_
        refine AllReady.cons rfl (fun K hK => ?_) (AllReady.cons rfl (fun K hK => ?_) AllReady.nil)
        · go_simp
          refine (drawOp_any B R _ C1.out.rd).mono ?_
          rintro e x2 ⟨k0, m0, rfl, hR0, hg0⟩
          have C2 := hidS (C1.out.read hR0 hg0)
          have F5_2 := hidS (F5_1.out.read hg0 C1.out.rLt)
          clear hR0 hg0 C1 F5_1
          refine hK _ _ ?_
          clear hK K
          refine wpAny_ready (rs := [3, 9]) (by kernel_rfl) (by simp) ?_
          refine AllReady.cons rfl (fun K hK => ?_) (AllReady.cons rfl (fun K hK => ?_) AllReady.nil)
          · go_simp
            refine (specDone_any ep k0 m0 C2.out.i C2.out.s).mono ?_
            rintro e x3 ⟨ep1, X1, Y1, vs1, ss1, re, v1, wl, u1, ks1, code, rfl, hz1, hi1, hs1, hz2, hw1, hwl, hz3, hz4, hb1, hz5⟩
            have C3 := hidS (C2.out.since hb1)
            have F5_3 := hidS (F5_2.out.since hb1)
            have V3 := hidS (wlow hw1 C2.out.gr.size)
            obtain ⟨a1, n1, k1, rfl⟩ := iform hi1
            obtain ⟨a2, n2, k2, rfl⟩ := sform hs1
            obtain ⟨a3, n3, k3, rfl⟩ := wform hw1
            clear hz1 hz2 hz3 hz4 hz5 hi1 hs1 hw1 hb1 C2 F5_2
            refine hK _ _ ?_
            clear hK K
            refine wpAny_take (i := 4) (v := .tuple #[svv ep1 (.slice a1 n1 k1) (.slice a2 n2 k2), rvD re (.slice a3 n3 k3), u1, .int .i64 code]) rfl (by kernel_rfl) (by kernel_rfl) (by kernel_rfl) (fun _ _ _ h => h) (Or.inl ⟨by rfl, fun w => by go_simp⟩) ?_
            refine wpAny_take (i := 5) (v := svv ep1 (.slice a1 n1 k1) (.slice a2 n2 k2)) rfl (by kernel_rfl) (by kernel_rfl) (by kernel_rfl) (fun _ _ _ h => h) (Or.inl ⟨by rfl, fun w => by go_simp⟩) ?_
            refine wpAny_take (i := 6) (v := rvD re (.slice a3 n3 k3)) rfl (by kernel_rfl) (by kernel_rfl) (by kernel_rfl) (fun _ _ _ h => h) (Or.inl ⟨by rfl, fun w => by go_simp⟩) ?_
            refine wpAny_take (i := 7) (v := u1) rfl (by kernel_rfl) (by kernel_rfl) (by kernel_rfl) (fun _ _ _ h => h) (Or.inl ⟨by rfl, fun w => by go_simp⟩) ?_
            refine wpAny_take (i := 8) (v := .int .i64 code) rfl (by kernel_rfl) (by kernel_rfl) (by kernel_rfl) (fun _ _ _ h => h) (Or.inl ⟨by rfl, fun w => by go_simp⟩) ?_
            refine wpAny_ready (rs := [9]) (by kernel_rfl) (by simp) ?_
            refine AllReady.cons rfl (fun K hK => ?_) AllReady.nil
            · go_simp
              refine hK _ _ ?_
              clear hK K
              have C4 := hidS (C3.out.since (one_below x3 (svb 0 (.slice none 0 0) (.slice none 0 0))))
              have F4_4 := hidS (show Blk W x3.heap.size (svb 0 (.slice none 0 0) (.slice none 0 0)) (x3.alloc (svb 0 (.slice none 0 0) (.slice none 0 0))) from ⟨Q.blk_new _ _, Q.blk_lt C3.out.b2⟩)
              have F5_4 := hidS (F5_3.out.since (one_below x3 (svb 0 (.slice none 0 0) (.slice none 0 0))))
              have V4 := hidS (wsince V3.out (one_below x3 (svb 0 (.slice none 0 0) (.slice none 0 0))))
              clear C3 F5_3 V3
              generalize x3.alloc (.cells #[.int .i64 0, .slice none 0 0, .slice none 0 0] 83) = x4 at C4 F4_4 F5_4 V4 ⊢
              generalize x3.heap.size = p4 at F4_4 ⊢
              clear x3
              obtain ⟨y, hy, b5, HO⟩ := stores (re := re) (e0 := ep1) (a0 := .slice a1 n1 k1) (b0 := .slice a2 n2 k2) C4.out F4_4.out F5_4.out V4.out hwl
              have HO := hidS HO
              have HB5 := hidS b5
              obtain ⟨⟨t0, t1, t2⟩, t3, t4, t5⟩ := box3 F4_4.out.1
              clear b5 V4 F5_4 C4 F4_4
              refine wpAny_ready (rs := [11]) (by kernel_rfl) (by simp) ?_
              refine AllReady.cons rfl (fun K hK => ?_) AllReady.nil
              go_simp
              refine hK _ _ ?_
              clear hK K t0 t1 t2 t3 t4 t5
              rw [← hy]
              clear hy
              obtain ⟨⟨t0, t1⟩, t3, t4⟩ := box2K HB5.out
              refine wpAny_ready (rs := [12]) (by kernel_rfl) (by simp) ?_
              refine AllReady.cons rfl (fun K hK => ?_) AllReady.nil
              go_simp
              refine hK _ _ ?_
              clear hK K t0 t1 t3 t4
              refine wpAny_ready (rs := [13]) (by kernel_rfl) (by simp) ?_
              refine AllReady.cons rfl (fun K hK => ?_) AllReady.nil
              go_simp
              refine hK _ _ ?_
              clear hK K
              refine wpAny_ready (rs := [14]) (by kernel_rfl) (by simp) ?_
              refine AllReady.cons rfl (fun K hK => ?_) AllReady.nil
              go_simp
              refine hK _ _ ?_
              clear hK K
              refine wpAny_done (by kernel_rfl) ?_ _
              go_wp2_with fail
              go_meet
              exact ⟨_, re, _, wl, code, rfl, rfl, HO⟩
          · go_simp
            refine hK _ _ ?_
            clear hK K
            have C3 := hidS (C2.out.since (one_below x2 (svb 0 (.slice none 0 0) (.slice none 0 0))))
            have F4_3 := hidS (show Blk W x2.heap.size (svb 0 (.slice none 0 0) (.slice none 0 0)) (x2.alloc (svb 0 (.slice none 0 0) (.slice none 0 0))) from ⟨Q.blk_new _ _, Q.blk_lt C2.out.b2⟩)
            have F5_3 := hidS (F5_2.out.since (one_below x2 (svb 0 (.slice none 0 0) (.slice none 0 0))))
            clear C2 F5_2
            generalize x2.alloc (.cells #[.int .i64 0, .slice none 0 0, .slice none 0 0] 83) = x3 at C3 F4_3 F5_3 ⊢
            generalize x2.heap.size = p4 at F4_3 ⊢
            clear x2
            refine wpAny_ready (rs := [3]) (by kernel_rfl) (by simp) ?_
            refine AllReady.cons rfl (fun K hK => ?_) AllReady.nil
            · go_simp
              refine (specDone_any ep k0 m0 C3.out.i C3.out.s).mono ?_
              rintro e x4 ⟨ep1, X1, Y1, vs1, ss1, re, v1, wl, u1, ks1, code, rfl, hz1, hi1, hs1, hz2, hw1, hwl, hz3, hz4, hb1, hz5⟩
              have C4 := hidS (C3.out.since hb1)
              have F4_4 := hidS (F4_3.out.since hb1)
              have F5_4 := hidS (F5_3.out.since hb1)
              have V4 := hidS (wlow hw1 C3.out.gr.size)
              obtain ⟨a1, n1, k1, rfl⟩ := iform hi1
              obtain ⟨a2, n2, k2, rfl⟩ := sform hs1
              obtain ⟨a3, n3, k3, rfl⟩ := wform hw1
              clear hz1 hz2 hz3 hz4 hz5 hi1 hs1 hw1 hb1 C3 F4_3 F5_3
              refine hK _ _ ?_
              clear hK K
              refine wpAny_take (i := 4) (v := .tuple #[svv ep1 (.slice a1 n1 k1) (.slice a2 n2 k2), rvD re (.slice a3 n3 k3), u1, .int .i64 code]) rfl (by kernel_rfl) (by kernel_rfl) (by kernel_rfl) (fun _ _ _ h => h) (Or.inl ⟨by rfl, fun w => by go_simp⟩) ?_
              refine wpAny_take (i := 5) (v := svv ep1 (.slice a1 n1 k1) (.slice a2 n2 k2)) rfl (by kernel_rfl) (by kernel_rfl) (by kernel_rfl) (fun _ _ _ h => h) (Or.inl ⟨by rfl, fun w => by go_simp⟩) ?_
              refine wpAny_take (i := 6) (v := rvD re (.slice a3 n3 k3)) rfl (by kernel_rfl) (by kernel_rfl) (by kernel_rfl) (fun _ _ _ h => h) (Or.inl ⟨by rfl, fun w => by go_simp⟩) ?_
              refine wpAny_take (i := 7) (v := u1) rfl (by kernel_rfl) (by kernel_rfl) (by kernel_rfl) (fun _ _ _ h => h) (Or.inl ⟨by rfl, fun w => by go_simp⟩) ?_
              refine wpAny_take (i := 8) (v := .int .i64 code) rfl (by kernel_rfl) (by kernel_rfl) (by kernel_rfl) (fun _ _ _ h => h) (Or.inl ⟨by rfl, fun w => by go_simp⟩) ?_
              obtain ⟨y, hy, b5, HO⟩ := stores (re := re) (e0 := ep1) (a0 := .slice a1 n1 k1) (b0 := .slice a2 n2 k2) C4.out F4_4.out F5_4.out V4.out hwl
              have HO := hidS HO
              have HB5 := hidS b5
              obtain ⟨⟨t0, t1, t2⟩, t3, t4, t5⟩ := box3 F4_4.out.1
              clear b5 V4 F5_4 C4 F4_4
              refine wpAny_ready (rs := [11]) (by kernel_rfl) (by simp) ?_
              refine AllReady.cons rfl (fun K hK => ?_) AllReady.nil
              go_simp
              refine hK _ _ ?_
              clear hK K t0 t1 t2 t3 t4 t5
              rw [← hy]
              clear hy
              obtain ⟨⟨t0, t1⟩, t3, t4⟩ := box2K HB5.out
              refine wpAny_ready (rs := [12]) (by kernel_rfl) (by simp) ?_
              refine AllReady.cons rfl (fun K hK => ?_) AllReady.nil
              go_simp
              refine hK _ _ ?_
              clear hK K t0 t1 t3 t4
              refine wpAny_ready (rs := [13]) (by kernel_rfl) (by simp) ?_
              refine AllReady.cons rfl (fun K hK => ?_) AllReady.nil
              go_simp
              refine hK _ _ ?_
              clear hK K
              refine wpAny_ready (rs := [14]) (by kernel_rfl) (by simp) ?_
              refine AllReady.cons rfl (fun K hK => ?_) AllReady.nil
              go_simp
              refine hK _ _ ?_
              clear hK K
              refine wpAny_done (by kernel_rfl) ?_ _
              go_wp2_with fail
              go_meet
              exact ⟨_, re, _, wl, code, rfl, rfl, HO⟩
        · go_simp
          refine hK _ _ ?_
          clear hK K
          have C2 := hidS (C1.out.since (one_below x1 (svb 0 (.slice none 0 0) (.slice none 0 0))))
          have F4_2 := hidS (show Blk W x1.heap.size (svb 0 (.slice none 0 0) (.slice none 0 0)) (x1.alloc (svb 0 (.slice none 0 0) (.slice none 0 0))) from ⟨Q.blk_new _ _, Q.blk_lt C1.out.b2⟩)
          have F5_2 := hidS (F5_1.out.since (one_below x1 (svb 0 (.slice none 0 0) (.slice none 0 0))))
          clear C1 F5_1
          generalize x1.alloc (.cells #[.int .i64 0, .slice none 0 0, .slice none 0 0] 83) = x2 at C2 F4_2 F5_2 ⊢
          generalize x1.heap.size = p4 at F4_2 ⊢
          clear x1
          refine wpAny_ready (rs := [2]) (by kernel_rfl) (by simp) ?_
          refine AllReady.cons rfl (fun K hK => ?_) AllReady.nil
          · go_simp
            refine (drawOp_any B R _ C2.out.rd).mono ?_
            rintro e x3 ⟨k0, m0, rfl, hR0, hg0⟩
            have C3 := hidS (C2.out.read hR0 hg0)
            have F4_3 := hidS (F4_2.out.read hg0 C2.out.rLt)
            have F5_3 := hidS (F5_2.out.read hg0 C2.out.rLt)
            clear hR0 hg0 C2 F4_2 F5_2
            refine hK _ _ ?_
            clear hK K
            refine wpAny_ready (rs := [3]) (by kernel_rfl) (by simp) ?_
            refine AllReady.cons rfl (fun K hK => ?_) AllReady.nil
            · go_simp
              refine (specDone_any ep k0 m0 C3.out.i C3.out.s).mono ?_
              rintro e x4 ⟨ep1, X1, Y1, vs1, ss1, re, v1, wl, u1, ks1, code, rfl, hz1, hi1, hs1, hz2, hw1, hwl, hz3, hz4, hb1, hz5⟩
              have C4 := hidS (C3.out.since hb1)
              have F4_4 := hidS (F4_3.out.since hb1)
              have F5_4 := hidS (F5_3.out.since hb1)
              have V4 := hidS (wlow hw1 C3.out.gr.size)
              obtain ⟨a1, n1, k1, rfl⟩ := iform hi1
              obtain ⟨a2, n2, k2, rfl⟩ := sform hs1
              obtain ⟨a3, n3, k3, rfl⟩ := wform hw1
              clear hz1 hz2 hz3 hz4 hz5 hi1 hs1 hw1 hb1 C3 F4_3 F5_3
              refine hK _ _ ?_
              clear hK K
              refine wpAny_take (i := 4) (v := .tuple #[svv ep1 (.slice a1 n1 k1) (.slice a2 n2 k2), rvD re (.slice a3 n3 k3), u1, .int .i64 code]) rfl (by kernel_rfl) (by kernel_rfl) (by kernel_rfl) (fun _ _ _ h => h) (Or.inl ⟨by rfl, fun w => by go_simp⟩) ?_
              refine wpAny_take (i := 5) (v := svv ep1 (.slice a1 n1 k1) (.slice a2 n2 k2)) rfl (by kernel_rfl) (by kernel_rfl) (by kernel_rfl) (fun _ _ _ h => h) (Or.inl ⟨by rfl, fun w => by go_simp⟩) ?_
              refine wpAny_take (i := 6) (v := rvD re (.slice a3 n3 k3)) rfl (by kernel_rfl) (by kernel_rfl) (by kernel_rfl) (fun _ _ _ h => h) (Or.inl ⟨by rfl, fun w => by go_simp⟩) ?_
              refine wpAny_take (i := 7) (v := u1) rfl (by kernel_rfl) (by kernel_rfl) (by kernel_rfl) (fun _ _ _ h => h) (Or.inl ⟨by rfl, fun w => by go_simp⟩) ?_
              refine wpAny_take (i := 8) (v := .int .i64 code) rfl (by kernel_rfl) (by kernel_rfl) (by kernel_rfl) (fun _ _ _ h => h) (Or.inl ⟨by rfl, fun w => by go_simp⟩) ?_
              obtain ⟨y, hy, b5, HO⟩ := stores (re := re) (e0 := ep1) (a0 := .slice a1 n1 k1) (b0 := .slice a2 n2 k2) C4.out F4_4.out F5_4.out V4.out hwl
              have HO := hidS HO
              have HB5 := hidS b5
              obtain ⟨⟨t0, t1, t2⟩, t3, t4, t5⟩ := box3 F4_4.out.1
              clear b5 V4 F5_4 C4 F4_4
              refine wpAny_ready (rs := [11]) (by kernel_rfl) (by simp) ?_
              refine AllReady.cons rfl (fun K hK => ?_) AllReady.nil
              go_simp
              refine hK _ _ ?_
              clear hK K t0 t1 t2 t3 t4 t5
              rw [← hy]
              clear hy
              obtain ⟨⟨t0, t1⟩, t3, t4⟩ := box2K HB5.out
              refine wpAny_ready (rs := [12]) (by kernel_rfl) (by simp) ?_
              refine AllReady.cons rfl (fun K hK => ?_) AllReady.nil
              go_simp
              refine hK _ _ ?_
              clear hK K t0 t1 t3 t4
              refine wpAny_ready (rs := [13]) (by kernel_rfl) (by simp) ?_
              refine AllReady.cons rfl (fun K hK => ?_) AllReady.nil
              go_simp
              refine hK _ _ ?_
              clear hK K
              refine wpAny_ready (rs := [14]) (by kernel_rfl) (by simp) ?_
              refine AllReady.cons rfl (fun K hK => ?_) AllReady.nil
              go_simp
              refine hK _ _ ?_
              clear hK K
              refine wpAny_done (by kernel_rfl) ?_ _
              go_wp2_with fail
              go_meet
              exact ⟨_, re, _, wl, code, rfl, rfl, HO⟩
      · go_simp
        refine (drawOp_any B R _ C1.out.rd).mono ?_
        rintro e x2 ⟨k0, m0, rfl, hR0, hg0⟩
        have C2 := hidS (C1.out.read hR0 hg0)
        have F5_2 := hidS (F5_1.out.read hg0 C1.out.rLt)
        clear hR0 hg0 C1 F5_1
        refine hK _ _ ?_
        clear hK K
        refine wpAny_ready (rs := [0, 9]) (by kernel_rfl) (by simp) ?_
        refine AllReady.cons rfl (fun K hK => ?_) (AllReady.cons rfl (fun K hK => ?_) AllReady.nil)
        · obtain ⟨⟨o0, o1, o2⟩, o3, o4, o5⟩ := box3 C2.out.b3
          go_simp
          refine hK _ _ ?_
          clear hK K o0 o1 o2 o3 o4 o5
          refine wpAny_ready (rs := [3, 9]) (by kernel_rfl) (by simp) ?_
          refine AllReady.cons rfl (fun K hK => ?_) (AllReady.cons rfl (fun K hK => ?_) AllReady.nil)
          · go_simp
            refine (specDone_any ep k0 m0 C2.out.i C2.out.s).mono ?_
            rintro e x3 ⟨ep1, X1, Y1, vs1, ss1, re, v1, wl, u1, ks1, code, rfl, hz1, hi1, hs1, hz2, hw1, hwl, hz3, hz4, hb1, hz5⟩
            have C3 := hidS (C2.out.since hb1)
            have F5_3 := hidS (F5_2.out.since hb1)
            have V3 := hidS (wlow hw1 C2.out.gr.size)
            obtain ⟨a1, n1, k1, rfl⟩ := iform hi1
            obtain ⟨a2, n2, k2, rfl⟩ := sform hs1
            obtain ⟨a3, n3, k3, rfl⟩ := wform hw1
            clear hz1 hz2 hz3 hz4 hz5 hi1 hs1 hw1 hb1 C2 F5_2
            refine hK _ _ ?_
            clear hK K
            refine wpAny_take (i := 4) (v := .tuple #[svv ep1 (.slice a1 n1 k1) (.slice a2 n2 k2), rvD re (.slice a3 n3 k3), u1, .int .i64 code]) rfl (by kernel_rfl) (by kernel_rfl) (by kernel_rfl) (fun _ _ _ h => h) (Or.inl ⟨by rfl, fun w => by go_simp⟩) ?_
            refine wpAny_take (i := 5) (v := svv ep1 (.slice a1 n1 k1) (.slice a2 n2 k2)) rfl (by kernel_rfl) (by kernel_rfl) (by kernel_rfl) (fun _ _ _ h => h) (Or.inl ⟨by rfl, fun w => by go_simp⟩) ?_
            refine wpAny_take (i := 6) (v := rvD re (.slice a3 n3 k3)) rfl (by kernel_rfl) (by kernel_rfl) (by kernel_rfl) (fun _ _ _ h => h) (Or.inl ⟨by rfl, fun w => by go_simp⟩) ?_
            refine wpAny_take (i := 7) (v := u1) rfl (by kernel_rfl) (by kernel_rfl) (by kernel_rfl) (fun _ _ _ h => h) (Or.inl ⟨by rfl, fun w => by go_simp⟩) ?_
            refine wpAny_take (i := 8) (v := .int .i64 code) rfl (by kernel_rfl) (by kernel_rfl) (by kernel_rfl) (fun _ _ _ h => h) (Or.inl ⟨by rfl, fun w => by go_simp⟩) ?_
            refine wpAny_ready (rs := [9]) (by kernel_rfl) (by simp) ?_
            refine AllReady.cons rfl (fun K hK => ?_) AllReady.nil
            · go_simp
              refine hK _ _ ?_
              clear hK K
              have C4 := hidS (C3.out.since (one_below x3 (svb 0 (.slice none 0 0) (.slice none 0 0))))
              have F4_4 := hidS (show Blk W x3.heap.size (svb 0 (.slice none 0 0) (.slice none 0 0)) (x3.alloc (svb 0 (.slice none 0 0) (.slice none 0 0))) from ⟨Q.blk_new _ _, Q.blk_lt C3.out.b2⟩)
              have F5_4 := hidS (F5_3.out.since (one_below x3 (svb 0 (.slice none 0 0) (.slice none 0 0))))
              have V4 := hidS (wsince V3.out (one_below x3 (svb 0 (.slice none 0 0) (.slice none 0 0))))
              clear C3 F5_3 V3
              generalize x3.alloc (.cells #[.int .i64 0, .slice none 0 0, .slice none 0 0] 83) = x4 at C4 F4_4 F5_4 V4 ⊢
              generalize x3.heap.size = p4 at F4_4 ⊢
              clear x3
              obtain ⟨y, hy, b5, HO⟩ := stores (re := re) (e0 := ep1) (a0 := .slice a1 n1 k1) (b0 := .slice a2 n2 k2) C4.out F4_4.out F5_4.out V4.out hwl
              have HO := hidS HO
              have HB5 := hidS b5
              obtain ⟨⟨t0, t1, t2⟩, t3, t4, t5⟩ := box3 F4_4.out.1
              clear b5 V4 F5_4 C4 F4_4
              refine wpAny_ready (rs := [11]) (by kernel_rfl) (by simp) ?_
              refine AllReady.cons rfl (fun K hK => ?_) AllReady.nil
              go_simp
              refine hK _ _ ?_
              clear hK K t0 t1 t2 t3 t4 t5
              rw [← hy]
              clear hy
              obtain ⟨⟨t0, t1⟩, t3, t4⟩ := box2K HB5.out
              refine wpAny_ready (rs := [12]) (by kernel_rfl) (by simp) ?_
              refine AllReady.cons rfl (fun K hK => ?_) AllReady.nil
              go_simp
              refine hK _ _ ?_
              clear hK K t0 t1 t3 t4
              refine wpAny_ready (rs := [13]) (by kernel_rfl) (by simp) ?_
              refine AllReady.cons rfl (fun K hK => ?_) AllReady.nil
              go_simp
              refine hK _ _ ?_
              clear hK K
              refine wpAny_ready (rs := [14]) (by kernel_rfl) (by simp) ?_
              refine AllReady.cons rfl (fun K hK => ?_) AllReady.nil
              go_simp
              refine hK _ _ ?_
              clear hK K
              refine wpAny_done (by kernel_rfl) ?_ _
              go_wp2_with fail
              go_meet
              exact ⟨_, re, _, wl, code, rfl, rfl, HO⟩
          · go_simp
            refine hK _ _ ?_
            clear hK K
            have C3 := hidS (C2.out.since (one_below x2 (svb 0 (.slice none 0 0) (.slice none 0 0))))
            have F4_3 := hidS (show Blk W x2.heap.size (svb 0 (.slice none 0 0) (.slice none 0 0)) (x2.alloc (svb 0 (.slice none 0 0) (.slice none 0 0))) from ⟨Q.blk_new _ _, Q.blk_lt C2.out.b2⟩)
            have F5_3 := hidS (F5_2.out.since (one_below x2 (svb 0 (.slice none 0 0) (.slice none 0 0))))
            clear C2 F5_2
            generalize x2.alloc (.cells #[.int .i64 0, .slice none 0 0, .slice none 0 0] 83) = x3 at C3 F4_3 F5_3 ⊢
            generalize x2.heap.size = p4 at F4_3 ⊢
            clear x2
            refine wpAny_ready (rs := [3]) (by kernel_rfl) (by simp) ?_
            refine AllReady.cons rfl (fun K hK => ?_) AllReady.nil
            · go_simp
              refine (specDone_any ep k0 m0 C3.out.i C3.out.s).mono ?_
              rintro e x4 ⟨ep1, X1, Y1, vs1, ss1, re, v1, wl, u1, ks1, code, rfl, hz1, hi1, hs1, hz2, hw1, hwl, hz3, hz4, hb1, hz5⟩
              have C4 := hidS (C3.out.since hb1)
              have F4_4 := hidS (F4_3.out.since hb1)
              have F5_4 := hidS (F5_3.out.since hb1)
              have V4 := hidS (wlow hw1 C3.out.gr.size)
              obtain ⟨a1, n1, k1, rfl⟩ := iform hi1
              obtain ⟨a2, n2, k2, rfl⟩ := sform hs1
              obtain ⟨a3, n3, k3, rfl⟩ := wform hw1
              clear hz1 hz2 hz3 hz4 hz5 hi1 hs1 hw1 hb1 C3 F4_3 F5_3
              refine hK _ _ ?_
              clear hK K
              refine wpAny_take (i := 4) (v := .tuple #[svv ep1 (.slice a1 n1 k1) (.slice a2 n2 k2), rvD re (.slice a3 n3 k3), u1, .int .i64 code]) rfl (by kernel_rfl) (by kernel_rfl) (by kernel_rfl) (fun _ _ _ h => h) (Or.inl ⟨by rfl, fun w => by go_simp⟩) ?_
              refine wpAny_take (i := 5) (v := svv ep1 (.slice a1 n1 k1) (.slice a2 n2 k2)) rfl (by kernel_rfl) (by kernel_rfl) (by kernel_rfl) (fun _ _ _ h => h) (Or.inl ⟨by rfl, fun w => by go_simp⟩) ?_
              refine wpAny_take (i := 6) (v := rvD re (.slice a3 n3 k3)) rfl (by kernel_rfl) (by kernel_rfl) (by kernel_rfl) (fun _ _ _ h => h) (Or.inl ⟨by rfl, fun w => by go_simp⟩) ?_
              refine wpAny_take (i := 7) (v := u1) rfl (by kernel_rfl) (by kernel_rfl) (by kernel_rfl) (fun _ _ _ h => h) (Or.inl ⟨by rfl, fun w => by go_simp⟩) ?_
              refine wpAny_take (i := 8) (v := .int .i64 code) rfl (by kernel_rfl) (by kernel_rfl) (by kernel_rfl) (fun _ _ _ h => h) (Or.inl ⟨by rfl, fun w => by go_simp⟩) ?_
              obtain ⟨y, hy, b5, HO⟩ := stores (re := re) (e0 := ep1) (a0 := .slice a1 n1 k1) (b0 := .slice a2 n2 k2) C4.out F4_4.out F5_4.out V4.out hwl
              have HO := hidS HO
              have HB5 := hidS b5
              obtain ⟨⟨t0, t1, t2⟩, t3, t4, t5⟩ := box3 F4_4.out.1
              clear b5 V4 F5_4 C4 F4_4
              refine wpAny_ready (rs := [11]) (by kernel_rfl) (by simp) ?_
              refine AllReady.cons rfl (fun K hK => ?_) AllReady.nil
              go_simp
              refine hK _ _ ?_
              clear hK K t0 t1 t2 t3 t4 t5
              rw [← hy]
              clear hy
              obtain ⟨⟨t0, t1⟩, t3, t4⟩ := box2K HB5.out
              refine wpAny_ready (rs := [12]) (by kernel_rfl) (by simp) ?_
              refine AllReady.cons rfl (fun K hK => ?_) AllReady.nil
              go_simp
              refine hK _ _ ?_
              clear hK K t0 t1 t3 t4
              refine wpAny_ready (rs := [13]) (by kernel_rfl) (by simp) ?_
              refine AllReady.cons rfl (fun K hK => ?_) AllReady.nil
              go_simp
              refine hK _ _ ?_
              clear hK K
              refine wpAny_ready (rs := [14]) (by kernel_rfl) (by simp) ?_
              refine AllReady.cons rfl (fun K hK => ?_) AllReady.nil
              go_simp
              refine hK _ _ ?_
              clear hK K
              refine wpAny_done (by kernel_rfl) ?_ _
              go_wp2_with fail
              go_meet
              exact ⟨_, re, _, wl, code, rfl, rfl, HO⟩
        · go_simp
          refine hK _ _ ?_
          clear hK K
          have C3 := hidS (C2.out.since (one_below x2 (svb 0 (.slice none 0 0) (.slice none 0 0))))
          have F4_3 := hidS (show Blk W x2.heap.size (svb 0 (.slice none 0 0) (.slice none 0 0)) (x2.alloc (svb 0 (.slice none 0 0) (.slice none 0 0))) from ⟨Q.blk_new _ _, Q.blk_lt C2.out.b2⟩)
          have F5_3 := hidS (F5_2.out.since (one_below x2 (svb 0 (.slice none 0 0) (.slice none 0 0))))
          clear C2 F5_2
          generalize x2.alloc (.cells #[.int .i64 0, .slice none 0 0, .slice none 0 0] 83) = x3 at C3 F4_3 F5_3 ⊢
          generalize x2.heap.size = p4 at F4_3 ⊢
          clear x2
          refine wpAny_ready (rs := [0]) (by kernel_rfl) (by simp) ?_
          refine AllReady.cons rfl (fun K hK => ?_) AllReady.nil
          · obtain ⟨⟨o0, o1, o2⟩, o3, o4, o5⟩ := box3 C3.out.b3
            go_simp
            refine hK _ _ ?_
            clear hK K o0 o1 o2 o3 o4 o5
            refine wpAny_ready (rs := [3]) (by kernel_rfl) (by simp) ?_
            refine AllReady.cons rfl (fun K hK => ?_) AllReady.nil
            · go_simp
              refine (specDone_any ep k0 m0 C3.out.i C3.out.s).mono ?_
              rintro e x4 ⟨ep1, X1, Y1, vs1, ss1, re, v1, wl, u1, ks1, code, rfl, hz1, hi1, hs1, hz2, hw1, hwl, hz3, hz4, hb1, hz5⟩
              have C4 := hidS (C3.out.since hb1)
              have F4_4 := hidS (F4_3.out.since hb1)
              have F5_4 := hidS (F5_3.out.since hb1)
              have V4 := hidS (wlow hw1 C3.out.gr.size)
              obtain ⟨a1, n1, k1, rfl⟩ := iform hi1
              obtain ⟨a2, n2, k2, rfl⟩ := sform hs1
              obtain ⟨a3, n3, k3, rfl⟩ := wform hw1
              clear hz1 hz2 hz3 hz4 hz5 hi1 hs1 hw1 hb1 C3 F4_3 F5_3
              refine hK _ _ ?_
              clear hK K
              refine wpAny_take (i := 4) (v := .tuple #[svv ep1 (.slice a1 n1 k1) (.slice a2 n2 k2), rvD re (.slice a3 n3 k3), u1, .int .i64 code]) rfl (by kernel_rfl) (by kernel_rfl) (by kernel_rfl) (fun _ _ _ h => h) (Or.inl ⟨by rfl, fun w => by go_simp⟩) ?_
              refine wpAny_take (i := 5) (v := svv ep1 (.slice a1 n1 k1) (.slice a2 n2 k2)) rfl (by kernel_rfl) (by kernel_rfl) (by kernel_rfl) (fun _ _ _ h => h) (Or.inl ⟨by rfl, fun w => by go_simp⟩) ?_
              refine wpAny_take (i := 6) (v := rvD re (.slice a3 n3 k3)) rfl (by kernel_rfl) (by kernel_rfl) (by kernel_rfl) (fun _ _ _ h => h) (Or.inl ⟨by rfl, fun w => by go_simp⟩) ?_
              refine wpAny_take (i := 7) (v := u1) rfl (by kernel_rfl) (by kernel_rfl) (by kernel_rfl) (fun _ _ _ h => h) (Or.inl ⟨by rfl, fun w => by go_simp⟩) ?_
              refine wpAny_take (i := 8) (v := .int .i64 code) rfl (by kernel_rfl) (by kernel_rfl) (by kernel_rfl) (fun _ _ _ h => h) (Or.inl ⟨by rfl, fun w => by go_simp⟩) ?_
              obtain ⟨y, hy, b5, HO⟩ := stores (re := re) (e0 := ep1) (a0 := .slice a1 n1 k1) (b0 := .slice a2 n2 k2) C4.out F4_4.out F5_4.out V4.out hwl
              have HO := hidS HO
              have HB5 := hidS b5
              obtain ⟨⟨t0, t1, t2⟩, t3, t4, t5⟩ := box3 F4_4.out.1
              clear b5 V4 F5_4 C4 F4_4
              refine wpAny_ready (rs := [11]) (by kernel_rfl) (by simp) ?_
              refine AllReady.cons rfl (fun K hK => ?_) AllReady.nil
              go_simp
              refine hK _ _ ?_
              clear hK K t0 t1 t2 t3 t4 t5
              rw [← hy]
              clear hy
              obtain ⟨⟨t0, t1⟩, t3, t4⟩ := box2K HB5.out
              refine wpAny_ready (rs := [12]) (by kernel_rfl) (by simp) ?_
              refine AllReady.cons rfl (fun K hK => ?_) AllReady.nil
              go_simp
              refine hK _ _ ?_
              clear hK K t0 t1 t3 t4
              refine wpAny_ready (rs := [13]) (by kernel_rfl) (by simp) ?_
              refine AllReady.cons rfl (fun K hK => ?_) AllReady.nil
              go_simp
              refine hK _ _ ?_
              clear hK K
              refine wpAny_ready (rs := [14]) (by kernel_rfl) (by simp) ?_
              refine AllReady.cons rfl (fun K hK => ?_) AllReady.nil
              go_simp
              refine hK _ _ ?_
              clear hK K
              refine wpAny_done (by kernel_rfl) ?_ _
              go_wp2_with fail
              go_meet
              exact ⟨_, re, _, wl, code, rfl, rfl, HO⟩
      · go_simp
        refine hK _ _ ?_
        clear hK K
        have C2 := hidS (C1.out.since (one_below x1 (svb 0 (.slice none 0 0) (.slice none 0 0))))
        have F4_2 := hidS (show Blk W x1.heap.size (svb 0 (.slice none 0 0) (.slice none 0 0)) (x1.alloc (svb 0 (.slice none 0 0) (.slice none 0 0))) from ⟨Q.blk_new _ _, Q.blk_lt C1.out.b2⟩)
        have F5_2 := hidS (F5_1.out.since (one_below x1 (svb 0 (.slice none 0 0) (.slice none 0 0))))
        clear C1 F5_1
        generalize x1.alloc (.cells #[.int .i64 0, .slice none 0 0, .slice none 0 0] 83) = x2 at C2 F4_2 F5_2 ⊢
        generalize x1.heap.size = p4 at F4_2 ⊢
        clear x1
        refine wpAny_ready (rs := [0, 2]) (by kernel_rfl) (by simp) ?_
        refine AllReady.cons rfl (fun K hK => ?_) (AllReady.cons rfl (fun K hK => ?_) AllReady.nil)
        · obtain ⟨⟨o0, o1, o2⟩, o3, o4, o5⟩ := box3 C2.out.b3
          go_simp
          refine hK _ _ ?_
          clear hK K o0 o1 o2 o3 o4 o5
          refine wpAny_ready (rs := [2]) (by kernel_rfl) (by simp) ?_
          refine AllReady.cons rfl (fun K hK => ?_) AllReady.nil
          · go_simp
            refine (drawOp_any B R _ C2.out.rd).mono ?_
            rintro e x3 ⟨k0, m0, rfl, hR0, hg0⟩
            have C3 := hidS (C2.out.read hR0 hg0)
            have F4_3 := hidS (F4_2.out.read hg0 C2.out.rLt)
            have F5_3 := hidS (F5_2.out.read hg0 C2.out.rLt)
            clear hR0 hg0 C2 F4_2 F5_2
            refine hK _ _ ?_
            clear hK K
            refine wpAny_ready (rs := [3]) (by kernel_rfl) (by simp) ?_
            refine AllReady.cons rfl (fun K hK => ?_) AllReady.nil
            · go_simp
              refine (specDone_any ep k0 m0 C3.out.i C3.out.s).mono ?_
              rintro e x4 ⟨ep1, X1, Y1, vs1, ss1, re, v1, wl, u1, ks1, code, rfl, hz1, hi1, hs1, hz2, hw1, hwl, hz3, hz4, hb1, hz5⟩
              have C4 := hidS (C3.out.since hb1)
              have F4_4 := hidS (F4_3.out.since hb1)
              have F5_4 := hidS (F5_3.out.since hb1)
              have V4 := hidS (wlow hw1 C3.out.gr.size)
              obtain ⟨a1, n1, k1, rfl⟩ := iform hi1
              obtain ⟨a2, n2, k2, rfl⟩ := sform hs1
              obtain ⟨a3, n3, k3, rfl⟩ := wform hw1
              clear hz1 hz2 hz3 hz4 hz5 hi1 hs1 hw1 hb1 C3 F4_3 F5_3
              refine hK _ _ ?_
              clear hK K
              refine wpAny_take (i := 4) (v := .tuple #[svv ep1 (.slice a1 n1 k1) (.slice a2 n2 k2), rvD re (.slice a3 n3 k3), u1, .int .i64 code]) rfl (by kernel_rfl) (by kernel_rfl) (by kernel_rfl) (fun _ _ _ h => h) (Or.inl ⟨by rfl, fun w => by go_simp⟩) ?_
              refine wpAny_take (i := 5) (v := svv ep1 (.slice a1 n1 k1) (.slice a2 n2 k2)) rfl (by kernel_rfl) (by kernel_rfl) (by kernel_rfl) (fun _ _ _ h => h) (Or.inl ⟨by rfl, fun w => by go_simp⟩) ?_
              refine wpAny_take (i := 6) (v := rvD re (.slice a3 n3 k3)) rfl (by kernel_rfl) (by kernel_rfl) (by kernel_rfl) (fun _ _ _ h => h) (Or.inl ⟨by rfl, fun w => by go_simp⟩) ?_
              refine wpAny_take (i := 7) (v := u1) rfl (by kernel_rfl) (by kernel_rfl) (by kernel_rfl) (fun _ _ _ h => h) (Or.inl ⟨by rfl, fun w => by go_simp⟩) ?_
              refine wpAny_take (i := 8) (v := .int .i64 code) rfl (by kernel_rfl) (by kernel_rfl) (by kernel_rfl) (fun _ _ _ h => h) (Or.inl ⟨by rfl, fun w => by go_simp⟩) ?_
              obtain ⟨y, hy, b5, HO⟩ := stores (re := re) (e0 := ep1) (a0 := .slice a1 n1 k1) (b0 := .slice a2 n2 k2) C4.out F4_4.out F5_4.out V4.out hwl
              have HO := hidS HO
              have HB5 := hidS b5
              obtain ⟨⟨t0, t1, t2⟩, t3, t4, t5⟩ := box3 F4_4.out.1
              clear b5 V4 F5_4 C4 F4_4
              refine wpAny_ready (rs := [11]) (by kernel_rfl) (by simp) ?_
              refine AllReady.cons rfl (fun K hK => ?_) AllReady.nil
              go_simp
              refine hK _ _ ?_
              clear hK K t0 t1 t2 t3 t4 t5
              rw [← hy]
              clear hy
              obtain ⟨⟨t0, t1⟩, t3, t4⟩ := box2K HB5.out
              refine wpAny_ready (rs := [12]) (by kernel_rfl) (by simp) ?_
              refine AllReady.cons rfl (fun K hK => ?_) AllReady.nil
              go_simp
              refine hK _ _ ?_
              clear hK K t0 t1 t3 t4
              refine wpAny_ready (rs := [13]) (by kernel_rfl) (by simp) ?_
              refine AllReady.cons rfl (fun K hK => ?_) AllReady.nil
              go_simp
              refine hK _ _ ?_
              clear hK K
              refine wpAny_ready (rs := [14]) (by kernel_rfl) (by simp) ?_
              refine AllReady.cons rfl (fun K hK => ?_) AllReady.nil
              go_simp
              refine hK _ _ ?_
              clear hK K
              refine wpAny_done (by kernel_rfl) ?_ _
              go_wp2_with fail
              go_meet
              exact ⟨_, re, _, wl, code, rfl, rfl, HO⟩
        · go_simp
          refine (drawOp_any B R _ C2.out.rd).mono ?_
          rintro e x3 ⟨k0, m0, rfl, hR0, hg0⟩
          have C3 := hidS (C2.out.read hR0 hg0)
          have F4_3 := hidS (F4_2.out.read hg0 C2.out.rLt)
          have F5_3 := hidS (F5_2.out.read hg0 C2.out.rLt)
          clear hR0 hg0 C2 F4_2 F5_2
          refine hK _ _ ?_
          clear hK K
          refine wpAny_ready (rs := [0]) (by kernel_rfl) (by simp) ?_
          refine AllReady.cons rfl (fun K hK => ?_) AllReady.nil
          · obtain ⟨⟨o0, o1, o2⟩, o3, o4, o5⟩ := box3 C3.out.b3
            go_simp
            refine hK _ _ ?_
            clear hK K o0 o1 o2 o3 o4 o5
            refine wpAny_ready (rs := [3]) (by kernel_rfl) (by simp) ?_
            refine AllReady.cons rfl (fun K hK => ?_) AllReady.nil
            · go_simp
              refine (specDone_any ep k0 m0 C3.out.i C3.out.s).mono ?_
              rintro e x4 ⟨ep1, X1, Y1, vs1, ss1, re, v1, wl, u1, ks1, code, rfl, hz1, hi1, hs1, hz2, hw1, hwl, hz3, hz4, hb1, hz5⟩
              have C4 := hidS (C3.out.since hb1)
              have F4_4 := hidS (F4_3.out.since hb1)
              have F5_4 := hidS (F5_3.out.since hb1)
              have V4 := hidS (wlow hw1 C3.out.gr.size)
              obtain ⟨a1, n1, k1, rfl⟩ := iform hi1
              obtain ⟨a2, n2, k2, rfl⟩ := sform hs1
              obtain ⟨a3, n3, k3, rfl⟩ := wform hw1
              clear hz1 hz2 hz3 hz4 hz5 hi1 hs1 hw1 hb1 C3 F4_3 F5_3
              refine hK _ _ ?_
              clear hK K
              refine wpAny_take (i := 4) (v := .tuple #[svv ep1 (.slice a1 n1 k1) (.slice a2 n2 k2), rvD re (.slice a3 n3 k3), u1, .int .i64 code]) rfl (by kernel_rfl) (by kernel_rfl) (by kernel_rfl) (fun _ _ _ h => h) (Or.inl ⟨by rfl, fun w => by go_simp⟩) ?_
              refine wpAny_take (i := 5) (v := svv ep1 (.slice a1 n1 k1) (.slice a2 n2 k2)) rfl (by kernel_rfl) (by kernel_rfl) (by kernel_rfl) (fun _ _ _ h => h) (Or.inl ⟨by rfl, fun w => by go_simp⟩) ?_
              refine wpAny_take (i := 6) (v := rvD re (.slice a3 n3 k3)) rfl (by kernel_rfl) (by kernel_rfl) (by kernel_rfl) (fun _ _ _ h => h) (Or.inl ⟨by rfl, fun w => by go_simp⟩) ?_
              refine wpAny_take (i := 7) (v := u1) rfl (by kernel_rfl) (by kernel_rfl) (by kernel_rfl) (fun _ _ _ h => h) (Or.inl ⟨by rfl, fun w => by go_simp⟩) ?_
              refine wpAny_take (i := 8) (v := .int .i64 code) rfl (by kernel_rfl) (by kernel_rfl) (by kernel_rfl) (fun _ _ _ h => h) (Or.inl ⟨by rfl, fun w => by go_simp⟩) ?_
              obtain ⟨y, hy, b5, HO⟩ := stores (re := re) (e0 := ep1) (a0 := .slice a1 n1 k1) (b0 := .slice a2 n2 k2) C4.out F4_4.out F5_4.out V4.out hwl
              have HO := hidS HO
              have HB5 := hidS b5
              obtain ⟨⟨t0, t1, t2⟩, t3, t4, t5⟩ := box3 F4_4.out.1
              clear b5 V4 F5_4 C4 F4_4
              refine wpAny_ready (rs := [11]) (by kernel_rfl) (by simp) ?_
              refine AllReady.cons rfl (fun K hK => ?_) AllReady.nil
              go_simp
              refine hK _ _ ?_
              clear hK K t0 t1 t2 t3 t4 t5
              rw [← hy]
              clear hy
              obtain ⟨⟨t0, t1⟩, t3, t4⟩ := box2K HB5.out
              refine wpAny_ready (rs := [12]) (by kernel_rfl) (by simp) ?_
              refine AllReady.cons rfl (fun K hK => ?_) AllReady.nil
              go_simp
              refine hK _ _ ?_
              clear hK K t0 t1 t3 t4
              refine wpAny_ready (rs := [13]) (by kernel_rfl) (by simp) ?_
              refine AllReady.cons rfl (fun K hK => ?_) AllReady.nil
              go_simp
              refine hK _ _ ?_
              clear hK K
              refine wpAny_ready (rs := [14]) (by kernel_rfl) (by simp) ?_
              refine AllReady.cons rfl (fun K hK => ?_) AllReady.nil
              go_simp
              refine hK _ _ ?_
              clear hK K
              refine wpAny_done (by kernel_rfl) ?_ _
              go_wp2_with fail
              go_meet
              exact ⟨_, re, _, wl, code, rfl, rfl, HO⟩
  case rest =>
    obtain ⟨p, re, v, wl, code, rfl, rfl, HO⟩ := hcut
    obtain ⟨av, nv, cv, rfl⟩ := wform HO.out.2.2.2.2.1
    obtain ⟨⟨c0, c1⟩, f0, f1⟩ := box2K HO.out.2.2.2.1
    obtain ⟨⟨d0, d1⟩, z0, z1⟩ := box2K HO.out.2.2.1
    by_cases hc : code = 0
    · have hc' : (code == 0) = true := by simpa using hc
      have HT := hidS (put2 (.int .i64 re) (.slice av nv cv) HO.out.2.2.1)
      have hRl := HO.out.2.2.2.2.2.2.1
      have R9 := hidS (HO.out.1.kept HT.out.2 (fun j e => by cases e; have := HO.out.1.le; exact ⟨by omega, by omega⟩))
      have G9 := hidS (HO.out.2.1.andThen HT.out.2 (fun j e => .inl (by cases e; exact Nat.le_refl _)))
      have V9 := hidS (wkept HO.out.2.2.2.2.1 HT.out.2 (fun k e => by cases e; exact wne HO.out.2.2.2.2.1 HO.out.2.2.1 (by decide)))
      have P9 := hidS HT.out.1
      clear HT hc
      go_wp2
      generalize ((wc.setCell ⟨W.heap.size, 0, none⟩ (.int .i64 re)).setCell ⟨W.heap.size, 1, none⟩ (.slice av nv cv)) = w9 at R9 G9 V9 P9 ⊢
      obtain ⟨⟨e0, e1⟩, _, _⟩ := box2K P9.out
      exact bodyPost_ret (v := rvD re (.slice av nv cv)) (by simp [results, Tryz.results26, go_sem, e0, e1]) rfl ⟨re, _, wl, rfl, V9.out, HO.out.2.2.2.2.2.1, R9.out, G9.out⟩
    · have hc' : (code == 0) = false := by simpa using hc
      clear hc
      go_wp2_with fail
      refine (Q.off_any B R 1 9 _ HO.out.1 (by omega) (by omega) (by omega)).mono ?_
      rintro e w8 ⟨y, _, rfl, hR8, hg8⟩
      have hRl := HO.out.2.2.2.2.2.2.1
      have P8 := hidS (Q.blk hg8 HO.out.2.2.1 (by omega))
      have G8 := hidS (HO.out.2.1.trans hg8)
      have HT := hidS (put2 (.int .i64 y) (.slice none 0 0) P8.out)
      have R9 := hidS (hR8.kept HT.out.2 (fun j e => by cases e; have := hR8.le; exact ⟨by omega, by omega⟩))
      have G9 := hidS (G8.out.andThen HT.out.2 (fun j e => .inl (by cases e; exact Nat.le_refl _)))
      have P9 := hidS HT.out.1
      clear HT hR8 hg8 c0 c1 f0 f1 d0 d1 z0 z1
      obtain ⟨⟨d0, d1⟩, z0, z1⟩ := box2K P8.out
      go_wp2
      generalize ((w8.setCell ⟨W.heap.size, 0, none⟩ (.int .i64 y)).setCell ⟨W.heap.size, 1, none⟩ (.slice none 0 0)) = w9 at R9 G9 P9 ⊢
      obtain ⟨⟨e0, e1⟩, _, _⟩ := box2K P9.out
      exact bodyPost_ret (v := rvD y (.slice none 0 0)) (by simp [results, Tryz.results26, go_sem, e0, e1]) rfl ⟨y, _, [], rfl, ⟨by simp [wcells], .inl ⟨rfl, rfl⟩⟩, by simp, R9.out, G9.out⟩
end Dt
end Go.Proofs.YtapmgbnhobpahaaGreatDoor
