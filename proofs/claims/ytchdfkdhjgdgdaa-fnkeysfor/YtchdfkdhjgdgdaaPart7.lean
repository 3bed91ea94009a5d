/- What the drawn laws of servers draw: a server. -/
import Derived.Test.YtchdfkdhjgdgdaaPart6
import Derived.Test.YtchdfkdhjgdgdaaPart0
import Derived.Deep.RegionHeld3
import Derived.Test.YtchdfkdhjgdgdaaPart1
import Derived.Test.YtchdfkdhjgdgdaaPart4
import Derived.LoopTactic
namespace Go.Proofs.Ytchdfkdhjgdgdaa
open Go.RowKit

/-- What is drawn: a server with a version of each node, its numbers and its seats in memory of the call's own. -/
def SvOut (B R : Nat) (W : World) (e : Ending) (W' : World) : Prop :=
  ∃ (ep : Int) (ax : Option Addr) (cx : Nat) (ay : Option Addr) (ny cy : Nat) (vs : List Int) (ss : List (Int × Int)), e = .returned (svv ep (.slice ax 15 cx) (.slice ay ny cy)) ∧ vs.length = 15 ∧ ss.length = ny ∧ ny ≤ 9 ∧ Ints W.heap.size (.slice ax 15 cx) vs W' ∧ Seats W.heap.size (.slice ay ny cy) ss W' ∧ Q.Rd B R W' ∧ W.grownBy W' (some R)
theorem two_rowsIS {W : World} {Z A : Nat} {x y : Value} {xs : List Int} {ss : List (Int × Int)} (h0 : Ints Z x xs W) (h1 : Seats A y ss W) :
    (∀ s, s ∈ [fI Z x xs, fS A y ss] → s.on W) ∧ [fI Z x xs, fS A y ss].Pairwise fun r s => ∀ k, r.v.ownBlock = some k → s.v.ownBlock ≠ some k := by
  refine ⟨fun s hs => ?_, List.pairwise_cons.2 ⟨fun s hs => ?_, List.pairwise_cons.2 ⟨(fun _ h => (by cases h)), .nil⟩⟩⟩
  · simp only [List.mem_cons, List.not_mem_nil, or_false] at hs
    rcases hs with rfl | rfl
    · exact h0
    · exact h1
  · simp only [List.mem_cons, List.not_mem_nil, or_false] at hs
    subst hs
    exact rows_ne (r := fI Z x xs) (s := fS A y ss) h0 h1 (show (2 : TypeId) ≠ 54 by decide)
theorem new_two (w : World) (x y : Value) (xs : List Int) (ss : List (Int × Int)) : ∀ s, s ∈ [fI w.heap.size x xs, fS w.heap.size y ss] → w.heap.size ≤ s.B := fun s hs => by
  simp only [List.mem_cons, List.not_mem_nil, or_false] at hs
  rcases hs with rfl | rfl <;> exact Nat.le_refl _
/-- A server in its box, and where it is answered. -/
abbrev SvX (B R : Nat) (W : World) (P : Nat) (ep : Int) (ax : Option Addr) (cx : Nat) (ay : Option Addr) (ny cy bx by' : Nat) (vs : List Int) (ss : List (Int × Int)) (wr : World) : Prop :=
  RdX B R W [(P, svb ep (.slice ax 15 cx) (.slice ay ny cy)), (W.heap.size, svb 0 (.slice none 0 0) (.slice none 0 0))] [fI bx (.slice ax 15 cx) vs, fS by' (.slice ay ny cy) ss] wr

theorem row15 {B : Nat} {a : Option Addr} {c : Nat} {vs : List Int} {W : World} (h : Ints B (.slice a 15 c) vs W) (_ : vs.length = 15) : ∃ g, a = some ⟨g, 0, none⟩ := by
  rcases h.2 with ⟨e, _⟩ | ⟨g, cap, cur, e, _⟩
  · injection e with e1 e2 e3
    cases e2
  · injection e with e1
    exact ⟨g, e1⟩
theorem rowS {B : Nat} {a : Option Addr} {n c : Nat} {ss : List (Int × Int)} {W : World} (h : Seats B (.slice a n c) ss W) (hl : ss.length = n) (h0 : 0 < n) : ∃ g, a = some ⟨g, 0, none⟩ := by
  rcases h.2 with ⟨e, _⟩ | ⟨g, cap, cur, e, _⟩
  · injection e with e1 e2 e3
    omega
  · injection e with e1
    exact ⟨g, e1⟩
theorem nat15 {y : Int} (h0 : 0 ≤ y) (h1 : y < 15) : ∃ q : Nat, y = (q : Int) := ⟨y.toNat, by omega⟩
theorem ints15_at {B g c : Nat} {vs : List Int} {W : World} (h : Ints B (.slice (some ⟨g, 0, none⟩) 15 c) vs W) (hl : vs.length = 15) (q : Nat) (hq : q < 15) : (∃ x, W.cell? ⟨g, q, none⟩ = some x) ∧ W.frozen? ⟨g, q, none⟩ = false := by
  rcases h.2 with ⟨e, _⟩ | ⟨g', cap, cur, e, _, hg, h1, h3, h4, h5⟩
  · cases e
  · injection e with e1 e2 e3
    injection e1 with e1
    injection e1 with e1
    subst e1 e3
    have hs : q < cur.size := by omega
    exact ⟨⟨cur[q], by simp [World.cell?, hg, hs]⟩, by simp [World.frozen?, hg]⟩
theorem seat_at {B g n c : Nat} {ss : List (Int × Int)} {W : World} (h : Seats B (.slice (some ⟨g, 0, none⟩) n c) ss W) (hl : ss.length = n) (h0 : 0 < n) : (∃ x, W.cell? ⟨g, 1, none⟩ = some x) ∧ W.frozen? ⟨g, 1, none⟩ = false := by
  rcases h.2 with ⟨e, _⟩ | ⟨g', cap, cur, e, _, hg, h1, h3, h4, h5⟩
  · cases e
  · injection e with e1 e2 e3
    injection e1 with e1
    injection e1 with e1
    subst e1 e3
    have hs : 1 < cur.size := by omega
    exact ⟨⟨cur[1], by simp [World.cell?, hg, hs]⟩, by simp [World.frozen?, hg]⟩
theorem setVer {B R : Nat} {W : World} {P : Nat} {ep : Int} {g cx : Nat} {ay : Option Addr} {ny cy bx by' : Nat} {vs : List Int} {ss : List (Int × Int)} {wr : World} (h : SvX B R W P ep (some ⟨g, 0, none⟩) cx ay ny cy bx by' vs ss wr) (hl : vs.length = 15) (q : Nat) (hq : q < 15) (o : Int) :
    SvX B R W P ep (some ⟨g, 0, none⟩) cx ay ny cy bx by' (vs.set q o) ss (wr.setCell ⟨g, q, none⟩ (.int .i64 o)) := h.map fun _ H => by
  have hI : Ints bx (.slice (some ⟨g, 0, none⟩) 15 cx) vs wr := H.row (fI bx (.slice (some ⟨g, 0, none⟩) 15 cx) vs) (.head _)
  have st := Ints.stored (n := 15) hl hI q (by omega) o
  exact Hex.turn (pre := []) (r' := fI bx (.slice (some ⟨g, 0, none⟩) 15 cx) (vs.set q o)) H st.2 st.1 rfl ⟨fun s hs => by
    simp only [List.nil_append, List.mem_cons, List.not_mem_nil, or_false] at hs
    subst hs
    exact (by decide : (54 : TypeId) ≠ 2), fun p hp => by
    simp only [List.mem_cons, List.not_mem_nil, or_false] at hp
    rcases hp with rfl | rfl <;> simp [objType]⟩
theorem setLeaf {B R : Nat} {W : World} {P : Nat} {ep : Int} {ax : Option Addr} {g cx : Nat} {ny cy bx by' : Nat} {vs : List Int} {ss : List (Int × Int)} {wr : World} (h : SvX B R W P ep ax cx (some ⟨g, 0, none⟩) ny cy bx by' vs ss wr) (hl : ss.length = ny) (h0 : 0 < ny) (o : Int) :
    SvX B R W P ep ax cx (some ⟨g, 0, none⟩) ny cy bx by' vs (ss.set 0 ((kAt ss 0).1, o)) (wr.setCell ⟨g, 1, none⟩ (.int .i64 o)) := h.map fun _ H => by
  have hI : Seats by' (.slice (some ⟨g, 0, none⟩) ny cy) ss wr := H.row (fS by' (.slice (some ⟨g, 0, none⟩) ny cy) ss) (.tail _ (.head _))
  subst hl
  have st := World.ownsRow.stored hI 1 (.int .i64 o)
  have hcells : (kcells ss).set 1 (.int .i64 o) = kcells (ss.set 0 ((kAt ss 0).1, o)) := by
    cases ss with
    | nil => simp at h0
    | cons s t => simp [kcells, kAt]
  rw [hcells] at st
  have st1 : Seats by' (.slice (some ⟨g, 0, none⟩) ss.length cy) (ss.set 0 ((kAt ss 0).1, o)) (wr.setCell ⟨g, 1, none⟩ (.int .i64 o)) := by
    unfold Seats
    rw [List.length_set]
    exact st.1
  exact Hex.turn (pre := [fI bx (.slice ax 15 cx) vs]) (r' := fS by' (.slice (some ⟨g, 0, none⟩) ss.length cy) (ss.set 0 ((kAt ss 0).1, o))) H st.2 st1 rfl ⟨fun s hs => by
    simp only [List.append_nil, List.mem_cons, List.not_mem_nil, or_false] at hs
    subst hs
    exact (by decide : (2 : TypeId) ≠ 54), fun p hp => by
    simp only [List.mem_cons, List.not_mem_nil, or_false] at hp
    rcases hp with rfl | rfl <;> simp [objType]⟩

set_option maxRecDepth 100000 in
set_option maxHeartbeats 4000000 in
theorem drawServer_any (B R most : Nat) (W : World) (h : Q.Rd B R W) (hm : most ≤ 100) :
    Calls Try.prog 15 #[.pointer (some ⟨R, 0, none⟩), .int .i64 (most : Int)] W fun e W' => SvOut B R W e W' := by
  have H1 := hidS ((RdX.start h).alloc (svb 0 (.slice none 0 0) (.slice none 0 0)))
  clear h
  go_enter Try.func15, Try.ntmps15
  go_wp2_with fail
  generalize W.alloc (svb 0 (.slice none 0 0) (.slice none 0 0)) = w1 at *
  refine (specServerNew_any _).mono ?_
  rintro e w2 ⟨a2, c2, rfl, k2, b2⟩
  have H2 := hidS (show SvX B R W w2.heap.size 0 a2 c2 none 0 0 w1.heap.size w1.heap.size (List.replicate 15 1) [] (w2.alloc (svb 0 (.slice a2 15 c2) (.slice none 0 0))) from H1.out.map fun _ H => (H.adds b2 _ (two_rowsIS k2.1 k2.2.1).1 (new_two _ _ _ _ _) (two_rowsIS k2.1 k2.2.1).2).alloc _)
  clear H1 k2 b2
  go_wp2_with fail
  generalize w2.alloc (svb 0 (.slice a2 15 c2) (.slice none 0 0)) = w3 at *
  refine (Q.below_any B R _ _ H2.out.rd (by omega) (by omega)).mono ?_
  rintro e w4 ⟨n, hn0, hn1, rfl, hR4, hg4⟩
  have H4 := hidS (show SvX B R W w2.heap.size 0 a2 c2 none 0 0 w1.heap.size w1.heap.size (List.replicate 15 1) [] w4 from H2.out.read hR4 hg4)
  obtain ⟨m, rfl⟩ : ∃ m : Nat, n = (m : Int) := ⟨n.toNat, by omega⟩
  have HS0 : Hid (serverB 0 (List.replicate 15 1) [] = true) := by
    show serverB 0 (List.replicate 15 1) [] = true
    decide
  clear H2 hR4 hg4
  go_wp2
  go_loopw [6] (fun i wr => ∃ (j : Nat) (ep : Int) (ax : Option Addr) (cx : Nat) (ay : Option Addr) (ny cy bx by' : Nat) (vs : List Int) (ss : List (Int × Int)), i = .int .i64 (j : Int) ∧ j ≤ m ∧ ss.length = ny ∧ Hid (serverB ep vs ss = true) ∧ Hid (SvX B R W w2.heap.size ep ax cx ay ny cy bx by' vs ss wr)) (fun i _ => (intOf i).toNat)
  case atStart => exact ⟨m, 0, a2, c2, none, 0, 0, w1.heap.size, w1.heap.size, List.replicate 15 1, [], rfl, Nat.le_refl _, rfl, HS0, H4⟩
  case round =>
    obtain ⟨j, ep, ax, cx, ay, ny, cy, bx, by', vs, ss, rfl, hj, hny, HS, HX⟩ := hrel
    clear H4 HS0
    by_cases hj0 : j = 0
    · subst hj0
      have hv15 := serverB_len HS.out
      have h8 := serverB_few HS.out
      have HB := hidS (HX.out.at fun _ H => (show W.heap.size ≤ bx ∧ W.heap.size ≤ by' from ⟨H.fresh (fI bx (.slice ax 15 cx) vs) (.head _), H.fresh (fS by' (.slice ay ny cy) ss) (.tail _ (.head _))⟩))
      obtain ⟨g, rfl⟩ : ∃ g, ax = some ⟨g, 0, none⟩ := row15 (show Ints bx (.slice ax 15 cx) vs wr from HX.out.r0) hv15
      go_wp2_with fail
      refine (Q.below_any B R 40 _ HX.out.rd (by omega) (by omega)).mono ?_
      rintro e w7 ⟨n, hn0, hn1, rfl, hR7, hg7⟩
      have H7 := hidS (show SvX B R W w2.heap.size ep (some ⟨g, 0, none⟩) cx ay ny cy bx by' vs ss w7 from HX.out.read hR7 hg7)
      clear HX hR7 hg7
      obtain ⟨⟨o0, o1, o2⟩, e0, e1, e2⟩ := box3 H7.out.b0
      by_cases h37 : n = 37
      · have h37' : (n == 37) = true := by simpa using h37
        clear h37
        go_wp2_with fail
        refine (Q.off_any B R 0 1000000000 _ H7.out.rd (by omega) (by omega) (by omega)).mono ?_
        rintro e w8 ⟨o, _, rfl, hR8, hg8⟩
        have H8 := hidS (H7.out.read hR8 hg8)
        clear H7 hR8 hg8 o0 o1 o2 e0 e1 e2
        obtain ⟨⟨o0, o1, o2⟩, e0, e1, e2⟩ := box3 H8.out.b0
        have H9 := hidS (H8.out.map fun _ H => H.s300 (.int .i64 o))
        clear H8
        go_upto_region 14 with fail
        generalize w8.setCell ⟨w2.heap.size, 0, none⟩ (.int .i64 o) = w9 at *
        clear o0 o1 o2 e0 e1 e2
        obtain ⟨⟨o0, o1, o2⟩, e0, e1, e2⟩ := box3 H9.out.b0
        obtain ⟨⟨t0, t1, t2⟩, u0, u1, u2⟩ := box3 H9.out.b1
        have HE := hidS (H9.out.map fun _ H => ((H.s310 (.int .i64 o)).s311 (.slice (some ⟨g, 0, none⟩) 15 cx)).s312 (.slice ay ny cy))
        clear H9
        go_wp2
        have HE' := HE.out
        generalize ((w9.setCell ⟨W.heap.size, 0, none⟩ (.int .i64 o)).setCell ⟨W.heap.size, 1, none⟩ (.slice (some ⟨g, 0, none⟩) 15 cx)).setCell ⟨W.heap.size, 2, none⟩ (.slice ay ny cy) = WF at HE' ⊢
        obtain ⟨⟨z0, z1, z2⟩, _, _, _⟩ := box3 HE'.b1
        have kI : Ints bx (.slice (some ⟨g, 0, none⟩) 15 cx) vs WF := HE'.r0
        have kS : Seats by' (.slice ay ny cy) ss WF := HE'.r1
        exact bodyPost_ret (v := svv o (.slice (some ⟨g, 0, none⟩) 15 cx) (.slice ay ny cy)) (by simp [results, Try.results15, go_sem, z0, z1, z2]) rfl ⟨o, _, _, _, _, _, vs, ss, rfl, hv15, hny, by omega, kI.mono HB.out.1, kS.mono HB.out.2, HE'.rd, HE'.grown⟩

      · have h37' : (n == 37) = false := by simpa using h37
        clear h37
        by_cases h38 : n = 38
        · have h38' : (n == 38) = true := by simpa using h38
          clear h38
          have H7d := hidS (show SvX B R W w2.heap.size ep (some ⟨g, 0, none⟩) cx ay ny cy bx by' vs ss w7.drew from H7.out.drew)
          go_upto_region 10 with fail
          go_region_with (first
            | (go_at_call 30; have hrd := Hoff.out.rd; refine (Q.below_any B R 15 _ hrd (by omega) (by omega)).mono ?_; rintro e w9 ⟨y, hy0, hy1, rfl, hR9, hg9⟩; have H9 := hidS (show SvX B R W w2.heap.size ep (some ⟨g, 0, none⟩) cx ay ny cy bx by' vs ss w9 from Hoff.out.read hR9 hg9); obtain ⟨q, rfl⟩ := nat15 hy0 hy1; obtain ⟨⟨x1, s1⟩, s2⟩ := ints15_at (show Ints bx (.slice (some ⟨g, 0, none⟩) 15 cx) vs w9 from H9.out.r0) hv15 q (by omega); clear o0 o1 o2 e0 e1 e2; obtain ⟨⟨o0, o1, o2⟩, e0, e1, e2⟩ := box3 H9.out.b0)
            | (go_at_call 30; refine (Q.below_any B R 15 _ H7d.out.rd (by omega) (by omega)).mono ?_; rintro e w8 ⟨y, hy0, hy1, rfl, hR8, hg8⟩; have Hbel := hidS (show SvX B R W w2.heap.size ep (some ⟨g, 0, none⟩) cx ay ny cy bx by' vs ss w8 from H7d.out.read hR8 hg8); obtain ⟨q, rfl⟩ := nat15 hy0 hy1; clear o0 o1 o2 e0 e1 e2; obtain ⟨⟨o0, o1, o2⟩, e0, e1, e2⟩ := box3 Hbel.out.b0)
            | (go_at_call 16; have hrd := Hbel.out.rd; refine (Q.off_any B R 1 1000000000 _ hrd (by omega) (by omega) (by omega)).mono ?_; rintro e w9 ⟨o, _, rfl, hR9, hg9⟩; have H9 := hidS (show SvX B R W w2.heap.size ep (some ⟨g, 0, none⟩) cx ay ny cy bx by' vs ss w9 from Hbel.out.read hR9 hg9); obtain ⟨⟨x1, s1⟩, s2⟩ := ints15_at (show Ints bx (.slice (some ⟨g, 0, none⟩) 15 cx) vs w9 from H9.out.r0) hv15 q (by omega); clear o0 o1 o2 e0 e1 e2; obtain ⟨⟨o0, o1, o2⟩, e0, e1, e2⟩ := box3 H9.out.b0)
            | (go_at_call 16; refine (Q.off_any B R 1 1000000000 _ H7d.out.rd (by omega) (by omega) (by omega)).mono ?_; rintro e w8 ⟨o, _, rfl, hR8, hg8⟩; have Hoff := hidS (show SvX B R W w2.heap.size ep (some ⟨g, 0, none⟩) cx ay ny cy bx by' vs ss w8 from H7d.out.read hR8 hg8); clear o0 o1 o2 e0 e1 e2; obtain ⟨⟨o0, o1, o2⟩, e0, e1, e2⟩ := box3 Hoff.out.b0))
          all_goals
            have HT := hidS (setVer H9.out hv15 q (by omega) o)
            clear H9 H7 H7d o0 o1 o2 e0 e1 e2
            generalize w9.setCell ⟨g, q, none⟩ (.int .i64 o) = wT at *
            obtain ⟨⟨o0, o1, o2⟩, e0, e1, e2⟩ := box3 HT.out.b0
            obtain ⟨⟨t0, t1, t2⟩, u0, u1, u2⟩ := box3 HT.out.b1
            have HE := hidS (HT.out.map fun _ H => ((H.s310 (.int .i64 ep)).s311 (.slice (some ⟨g, 0, none⟩) 15 cx)).s312 (.slice ay ny cy))
            clear HT
            go_wp2
            have HE' := HE.out
            generalize ((wT.setCell ⟨W.heap.size, 0, none⟩ (.int .i64 ep)).setCell ⟨W.heap.size, 1, none⟩ (.slice (some ⟨g, 0, none⟩) 15 cx)).setCell ⟨W.heap.size, 2, none⟩ (.slice ay ny cy) = WF at HE' ⊢
            obtain ⟨⟨z0, z1, z2⟩, _, _, _⟩ := box3 HE'.b1
            have kI : Ints bx (.slice (some ⟨g, 0, none⟩) 15 cx) (vs.set q o) WF := HE'.r0
            have kS : Seats by' (.slice ay ny cy) ss WF := HE'.r1
            exact bodyPost_ret (v := svv ep (.slice (some ⟨g, 0, none⟩) 15 cx) (.slice ay ny cy)) (by simp [results, Try.results15, go_sem, z0, z1, z2]) rfl ⟨ep, _, _, _, _, _, (vs.set q o), ss, rfl, by simp [hv15], hny, by omega, kI.mono HB.out.1, kS.mono HB.out.2, HE'.rd, HE'.grown⟩

        · have h38' : (n == 38) = false := by simpa using h38
          clear h38
          by_cases h39 : n = 39
          · have h39' : (n == 39) = true := by simpa using h39
            clear h39
            by_cases hs0 : ny = 0
            · subst hs0
              obtain ⟨⟨o0, o1, o2⟩, e0, e1, e2⟩ := box3 H7.out.b0
              obtain ⟨⟨t0, t1, t2⟩, u0, u1, u2⟩ := box3 H7.out.b1
              have HE := hidS (H7.out.map fun _ H => ((H.s310 (.int .i64 ep)).s311 (.slice (some ⟨g, 0, none⟩) 15 cx)).s312 (.slice ay 0 cy))
              clear H7
              go_wp2
              have HE' := HE.out
              generalize ((w7.setCell ⟨W.heap.size, 0, none⟩ (.int .i64 ep)).setCell ⟨W.heap.size, 1, none⟩ (.slice (some ⟨g, 0, none⟩) 15 cx)).setCell ⟨W.heap.size, 2, none⟩ (.slice ay 0 cy) = WF at HE' ⊢
              obtain ⟨⟨z0, z1, z2⟩, _, _, _⟩ := box3 HE'.b1
              have kI : Ints bx (.slice (some ⟨g, 0, none⟩) 15 cx) vs WF := HE'.r0
              have kS : Seats by' (.slice ay 0 cy) ss WF := HE'.r1
              exact bodyPost_ret (v := svv ep (.slice (some ⟨g, 0, none⟩) 15 cx) (.slice ay 0 cy)) (by simp [results, Try.results15, go_sem, z0, z1, z2]) rfl ⟨ep, _, _, _, _, _, vs, ss, rfl, hv15, hny, by omega, kI.mono HB.out.1, kS.mono HB.out.2, HE'.rd, HE'.grown⟩

            · have hs0' : 0 < ny := by omega
              obtain ⟨gs, rfl⟩ : ∃ gs, ay = some ⟨gs, 0, none⟩ := rowS (show Seats by' (.slice ay ny cy) ss w7 from H7.out.r1) hny hs0'
              have H7d := hidS (show SvX B R W w2.heap.size ep (some ⟨g, 0, none⟩) cx (some ⟨gs, 0, none⟩) ny cy bx by' vs ss w7.drew from H7.out.drew)
              go_upto_region 13 with fail
              go_region_with (go_at_call 16; refine (Q.off_any B R 8 15 _ H7d.out.rd (by omega) (by omega) (by omega)).mono ?_; rintro e w9 ⟨o, _, rfl, hR9, hg9⟩; have H9 := hidS (show SvX B R W w2.heap.size ep (some ⟨g, 0, none⟩) cx (some ⟨gs, 0, none⟩) ny cy bx by' vs ss w9 from H7d.out.read hR9 hg9); obtain ⟨⟨x1, s1⟩, s2⟩ := seat_at (show Seats by' (.slice (some ⟨gs, 0, none⟩) ny cy) ss w9 from H9.out.r1) hny hs0'; clear o0 o1 o2 e0 e1 e2; obtain ⟨⟨o0, o1, o2⟩, e0, e1, e2⟩ := box3 H9.out.b0)
              all_goals
                have HT := hidS (setLeaf H9.out hny hs0' o)
                clear H9 H7 H7d o0 o1 o2 e0 e1 e2
                generalize w9.setCell ⟨gs, 1, none⟩ (.int .i64 o) = wT at *
                obtain ⟨⟨o0, o1, o2⟩, e0, e1, e2⟩ := box3 HT.out.b0
                obtain ⟨⟨t0, t1, t2⟩, u0, u1, u2⟩ := box3 HT.out.b1
                have HE := hidS (HT.out.map fun _ H => ((H.s310 (.int .i64 ep)).s311 (.slice (some ⟨g, 0, none⟩) 15 cx)).s312 (.slice (some ⟨gs, 0, none⟩) ny cy))
                clear HT
                go_wp2
                have HE' := HE.out
                generalize ((wT.setCell ⟨W.heap.size, 0, none⟩ (.int .i64 ep)).setCell ⟨W.heap.size, 1, none⟩ (.slice (some ⟨g, 0, none⟩) 15 cx)).setCell ⟨W.heap.size, 2, none⟩ (.slice (some ⟨gs, 0, none⟩) ny cy) = WF at HE' ⊢
                obtain ⟨⟨z0, z1, z2⟩, _, _, _⟩ := box3 HE'.b1
                have kI : Ints bx (.slice (some ⟨g, 0, none⟩) 15 cx) vs WF := HE'.r0
                have kS : Seats by' (.slice (some ⟨gs, 0, none⟩) ny cy) (ss.set 0 ((kAt ss 0).1, o)) WF := HE'.r1
                exact bodyPost_ret (v := svv ep (.slice (some ⟨g, 0, none⟩) 15 cx) (.slice (some ⟨gs, 0, none⟩) ny cy)) (by simp [results, Try.results15, go_sem, z0, z1, z2]) rfl ⟨ep, _, _, _, _, _, vs, (ss.set 0 ((kAt ss 0).1, o)), rfl, hv15, by simp [hny], by omega, kI.mono HB.out.1, kS.mono HB.out.2, HE'.rd, HE'.grown⟩

          · have h39' : (n == 39) = false := by simpa using h39
            clear h39
            obtain ⟨⟨o0, o1, o2⟩, e0, e1, e2⟩ := box3 H7.out.b0
            obtain ⟨⟨t0, t1, t2⟩, u0, u1, u2⟩ := box3 H7.out.b1
            have HE := hidS (H7.out.map fun _ H => ((H.s310 (.int .i64 ep)).s311 (.slice (some ⟨g, 0, none⟩) 15 cx)).s312 (.slice ay ny cy))
            clear H7
            go_wp2
            have HE' := HE.out
            generalize ((w7.setCell ⟨W.heap.size, 0, none⟩ (.int .i64 ep)).setCell ⟨W.heap.size, 1, none⟩ (.slice (some ⟨g, 0, none⟩) 15 cx)).setCell ⟨W.heap.size, 2, none⟩ (.slice ay ny cy) = WF at HE' ⊢
            obtain ⟨⟨z0, z1, z2⟩, _, _, _⟩ := box3 HE'.b1
            have kI : Ints bx (.slice (some ⟨g, 0, none⟩) 15 cx) vs WF := HE'.r0
            have kS : Seats by' (.slice ay ny cy) ss WF := HE'.r1
            exact bodyPost_ret (v := svv ep (.slice (some ⟨g, 0, none⟩) 15 cx) (.slice ay ny cy)) (by simp [results, Try.results15, go_sem, z0, z1, z2]) rfl ⟨ep, _, _, _, _, _, vs, ss, rfl, hv15, hny, by omega, kI.mono HB.out.1, kS.mono HB.out.2, HE'.rd, HE'.grown⟩
    · have hj' : 0 < j := by omega
      obtain ⟨⟨o0, o1, o2⟩, e0, e1, e2⟩ := box3 HX.out.b0
      have HXd := hidS (show SvX B R W w2.heap.size ep ax cx ay ny cy bx by' vs ss wr.drew from HX.out.drew)
      go_wp2
      go_region_with (first
        | (go_at_call 32; refine (drawOp_any B R _ HXd.out.rd).mono ?_; rintro e w5 ⟨k, mm, rfl, hR5, hg5⟩; have H5 := hidS (show SvX B R W w2.heap.size ep ax cx ay ny cy bx by' vs ss w5 from HXd.out.read hR5 hg5); obtain ⟨⟨o0, o1, o2⟩, e0, e1, e2⟩ := box3 H5.out.b0)
        | (go_at_call 31; refine (specDone_any ep k mm (show Ints bx (.slice ax 15 cx) vs w5 from H5.out.r0) (show Seats by' (.slice ay ny cy) ss w5 from H5.out.r1)).mono ?_; rintro e w6 ⟨ep', x', y', vs', ss', re, v', ws', u', ks', code, rfl, l1, i3, s3, l2, v3, l3, u3, l4, b3, hok⟩; have HS6 := hidS (hok HS.out); obtain ⟨xa, xc, hv1, _, _⟩ := i3.row; obtain ⟨ya, yc, hv2, _, _⟩ := s3.row; rw [serverB_len HS6.out] at hv1; subst hv1 hv2; have H6 := hidS (H5.out.map fun _ H => ((H.adds b3 [fI w5.heap.size (.slice xa 15 xc) vs', fS w5.heap.size (.slice ya ss'.length yc) ss'] (two_rowsIS i3 s3).1 (new_two _ _ _ _ _) (two_rowsIS i3 s3).2).sub (List.Sublist.refl _) (List.sublist_append_left _ _))); clear i3 s3 v3 u3 b3 hok l1 l2 l3 l4; obtain ⟨⟨o0, o1, o2⟩, e0, e1, e2⟩ := box3 H6.out.b0))
      all_goals
        have HF := hidS (show SvX B R W w2.heap.size ep' xa xc ya ss'.length yc w5.heap.size w5.heap.size vs' ss' _ from H6.out.map fun _ H => ((H.s300 (.int .i64 ep')).s301 (.slice xa 15 xc)).s302 (.slice ya ss'.length yc))
        clear H6 H5 HXd HX o0 o1 o2 e0 e1 e2
        go_wp2
        go_roundw
        case rel => exact ⟨j - 1, ep', xa, xc, ya, ss'.length, yc, w5.heap.size, w5.heap.size, vs', ss', by go_num, by omega, rfl, HS6, HF⟩
        case measure => simp [intOf]; omega
end Go.Proofs.Ytchdfkdhjgdgdaa
/- The code of a drawn law: bytes, and the test of its length. -/
namespace Go.Proofs.Ytchdfkdhjgdgdaa
open Go.RowKit
namespace Q

/-- The bytes that are drawn from: they lie below B. -/
def Bytes (B : Nat) (a : Option Addr) (len : Nat) (W : World) : Prop :=
  len ≤ maxLen ∧ ∀ i, i < len → ∃ b off x, a = some ⟨b, off, none⟩ ∧ b < B ∧ W.cell? ⟨b, off + i, none⟩ = some (.int .u8 x) ∧ 0 ≤ x ∧ x ≤ 255
theorem Bytes.kept {B len : Nat} {a : Option Addr} {W W' : World} (h : Bytes B a len W) (hb : Below B W W') : Bytes B a len W' :=
  ⟨h.1, fun i hi => by
    obtain ⟨b, off, x, e, hB, hc, hx⟩ := h.2 i hi
    exact ⟨b, off, x, e, hB, (hb.cell (p := ⟨b, off + i, none⟩) hB).trans hc, hx⟩⟩
theorem Bytes.rd {B len : Nat} {a : Option Addr} {W : World} (h : Bytes B a len W) (hB : B ≤ W.heap.size) (cap : Nat) : Rd B W.heap.size (W.alloc (.cells #[.slice a len cap, .int .i64 0] 65)) := by
  refine ⟨a, len, cap, 0, Nat.zero_le _, h.1, hB, blk_new _ _, fun i hi => ?_⟩
  obtain ⟨b, off, x, e, hb, hc, hx⟩ := h.2 i hi
  exact ⟨b, off, x, e, hb, (World.grownBy_alloc W _ none).cell hc (by simp), hx⟩

theorem big_any (a : Option Addr) (len cap : Nat) (W : World) :
    Calls Try.prog 4 #[.slice a len cap] W fun e W' => e = .returned (.bool (decide ((1048576 : Int) < (len : Int)))) ∧ W' = W := by
  go_enter Try.func4, Try.ntmps4
  go_wp2
  go_ret
  exact ⟨by simp, rfl⟩

end Q
end Go.Proofs.Ytchdfkdhjgdgdaa
/- What the drawn law of KeysFor draws: a server and a member. -/
namespace Go.Proofs.Ytchdfkdhjgdgdaa
open Go.RowKit

set_option maxRecDepth 100000 in
set_option maxHeartbeats 4000000 in
theorem drawKeysFor_any (a : Option Addr) (len cap : Nat) (W : World) (h : Q.Bytes W.heap.size a len W) :
    Calls Try.prog 5 #[.slice a len cap] W fun e W' => ∃ (ep : Int) (ax : Option Addr) (cx : Nat) (ay : Option Addr) (ny cy : Nat) (vs : List Int) (ss : List (Int × Int)) (m : Int), e = .returned (.tuple #[svv ep (.slice ax 15 cx) (.slice ay ny cy), .int .i64 m]) ∧ vs.length = 15 ∧ ss.length = ny ∧ ny ≤ 9 ∧ Ints W.heap.size (.slice ax 15 cx) vs W' ∧ Seats W.heap.size (.slice ay ny cy) ss W' ∧ Below W.heap.size W W' := by
  have hB1 := one_below W (svb 0 (.slice none 0 0) (.slice none 0 0))
  have h1 := h.kept hB1
  have t1 := heap_alloc_new W (svb 0 (.slice none 0 0) (.slice none 0 0))
  have hs1 : (W.alloc (svb 0 (.slice none 0 0) (.slice none 0 0))).heap.size = W.heap.size + 1 := by simp
  have HS1 := hidS hs1
  clear hs1
  go_enter Try.func5, Try.ntmps5
  go_wp2_with fail
  generalize W.alloc (svb 0 (.slice none 0 0) (.slice none 0 0)) = w1 at *
  refine (Q.l1Open_any a len cap _).mono ?_
  rintro e w2 ⟨rfl, hw2⟩
  have R2 : Q.Rd W.heap.size w1.heap.size w2 := by rw [hw2]; exact h1.rd (by have := HS1.out; omega) cap
  have b2 : Below w1.heap.size w1 w2 := by rw [hw2]; exact one_below _ _
  have HS2 := hidS (show w2.heap.size = w1.heap.size + 1 by rw [hw2]; simp)
  have t2 := (b2.block W.heap.size (by have := HS1.out; omega)).trans t1
  have B2 := hidS (more hB1 b2)
  clear hw2 h1 b2 t1 hB1
  go_wp2_with fail
  have hsv := drawServer_any W.heap.size w1.heap.size 12 w2 R2 (by omega)
  rw [show (((12 : Nat) : Int)) = 12 from rfl] at hsv
  refine hsv.mono ?_
  clear hsv
  rintro e w3 ⟨ep, ax, cx, ay, ny, cy, vs, ss, rfl, hv, hny, h9, i3, s3, R3, g3⟩
  have hs1 := HS1.out
  have hs2 := HS2.out
  have t3 : w3.heap[W.heap.size]? = some (svb 0 (.slice none 0 0) (.slice none 0 0)) := (g3.block W.heap.size (by omega) (fun e => by injection e with e; omega)).trans t2
  have B3 := hidS (B2.out.grown g3 B2.out.size (fun k e => by cases e; omega))
  have hs3 := g3.size
  have hB4 := one_below w3 (svb ep (.slice ax 15 cx) (.slice ay ny cy))
  have I4 := hidS (i3.since hB4)
  have S4 := hidS (s3.since hB4)
  have R4 := hidS (R3.alloc (svb ep (.slice ax 15 cx) (.slice ay ny cy)))
  have t4 := (hB4.block W.heap.size (by omega)).trans t3
  have u4 := heap_alloc_new w3 (svb ep (.slice ax 15 cx) (.slice ay ny cy))
  have B4 := hidS (more B3.out hB4)
  have HV := hidS (And.intro hv (And.intro hny h9))
  clear i3 s3 R3 g3 t2 t3 B2 B3 R2 hB4 hv hny
  have HS4 := hidS (show (w3.alloc (svb ep (.slice ax 15 cx) (.slice ay ny cy))).heap.size = w3.heap.size + 1 by simp)
  have HS3 := hidS (And.intro hs1 (And.intro hs2 hs3))
  clear hs1 hs2 hs3
  go_upto_region 3 with fail
  generalize w3.alloc (svb ep (.slice ax 15 cx) (.slice ay ny cy)) = w4 at *
  obtain ⟨⟨o0, o1, o2⟩, e0, e1, e2⟩ := box3 u4
  obtain ⟨⟨p0, p1, p2⟩, f0, f1, f2⟩ := box3 t4
  have hx : ∀ j, (Value.slice ax 15 cx).ownBlock = some j → w2.heap.size ≤ j := fun j e => (I4.out.lt j e).1
  have hy : ∀ j, (Value.slice ay ny cy).ownBlock = some j → w2.heap.size ≤ j := fun j e => (S4.out.lt j e).1
  have HX := hidS (And.intro hx hy)
  clear hx hy
  obtain ⟨ws, hws⟩ : ∃ ws, ((w4.drew.setCell ⟨W.heap.size, 0, none⟩ (.int .i64 ep)).setCell ⟨W.heap.size, 1, none⟩ (.slice ax 15 cx)).setCell ⟨W.heap.size, 2, none⟩ (.slice ay ny cy) = ws := ⟨_, rfl⟩
  have gS : w4.drew.grownBy ws (some W.heap.size) := by rw [← hws]; exact ((grown_set _ _ _ _).trans (grown_set _ _ _ _)).trans (grown_set _ _ _ _)
  have RS := hidS ((show Q.Rd W.heap.size w1.heap.size w4.drew from R4.out).kept gS (fun j e => by cases e; exact ⟨Nat.le_refl _, by have := HS3.out; omega⟩))
  have tS : ws.heap[W.heap.size]? = some (svb ep (.slice ax 15 cx) (.slice ay ny cy)) := by rw [← hws]; exact box3_set2 (box3_set1 (box3_set0 (show w4.drew.heap[W.heap.size]? = _ from t4) _) _) _
  have IS := hidS (show Ints w2.heap.size (.slice ax 15 cx) vs ws from (show Ints w2.heap.size (.slice ax 15 cx) vs w4.drew from I4.out).kept gS (fun k e e' => by cases e; have := HX.out.1 _ e'; have := HS3.out; omega))
  have SS := hidS (show Seats w2.heap.size (.slice ay ny cy) ss ws from (show Seats w2.heap.size (.slice ay ny cy) ss w4.drew from S4.out).kept gS (fun k e e' => by cases e; have := HX.out.2 _ e'; have := HS3.out; omega))
  have BS := hidS ((B4.out.drew).grown gS B4.out.drew.size (fun k e => by cases e; exact Nat.le_refl _))
  go_region_with (first
    | (go_at_call 16; rw [hws]; refine (Q.off_any W.heap.size w1.heap.size 1 6 ws RS.out (by omega) (by omega) (by omega)).mono ?_; rintro e w6 ⟨m, _, rfl, hR6, hg6⟩; have t6 := (hg6.block W.heap.size (Array.getElem?_eq_some_iff.1 tS).1 (fun e => by injection e with e; have := HS3.out; omega)).trans tS)
    | (go_at_call 16; refine (Q.off_any W.heap.size w1.heap.size 1 6 w4.drew R4.out (by omega) (by omega) (by omega)).mono ?_; rintro e w5 ⟨m, _, rfl, hR5, hg5⟩; have t5 := (hg5.block W.heap.size (show W.heap.size < w4.drew.heap.size from (Array.getElem?_eq_some_iff.1 t4).1) (fun e => by injection e with e; have := HS3.out; omega)).trans (show w4.drew.heap[W.heap.size]? = _ from t4); have u5 := (hg5.block w3.heap.size (show w3.heap.size < w4.drew.heap.size from (Array.getElem?_eq_some_iff.1 u4).1) (fun e => by injection e with e; have := HS3.out; omega)).trans (show w4.drew.heap[w3.heap.size]? = _ from u4); clear o0 o1 o2 e0 e1 e2 p0 p1 p2 f0 f1 f2; obtain ⟨⟨o0, o1, o2⟩, e0, e1, e2⟩ := box3 u5; obtain ⟨⟨p0, p1, p2⟩, f0, f1, f2⟩ := box3 t5))
  all_goals
    have hs := HS3.out
    first
      | (have gI := hidS (IS.out.kept hg6 (fun k e e' => by cases e; have := HX.out.1 _ e'; omega))
         have gS6 := hidS (SS.out.kept hg6 (fun k e e' => by cases e; have := HX.out.2 _ e'; omega))
         have gB := hidS (BS.out.grown hg6 BS.out.size (fun k e => by cases e; omega))
         have HT := hidS t6
         clear t6 hg6 hR6 hws
         go_wp2
         obtain ⟨⟨z0, z1, z2⟩, _, _, _⟩ := box3 HT.out
         exact bodyPost_ret (v := .tuple #[svv ep (.slice ax 15 cx) (.slice ay ny cy), .int .i64 m]) (by simp [results, Try.results5, go_sem, z0, z1, z2]) rfl ⟨ep, ax, cx, ay, ny, cy, vs, ss, m, rfl, HV.out.1, HV.out.2.1, HV.out.2.2, gI.out.mono (by omega), gS6.out.mono (by omega), gB.out⟩)
      | (have gst : w5.grownBy (((w5.setCell ⟨W.heap.size, 0, none⟩ (.int .i64 ep)).setCell ⟨W.heap.size, 1, none⟩ (.slice ax 15 cx)).setCell ⟨W.heap.size, 2, none⟩ (.slice ay ny cy)) (some W.heap.size) := ((grown_set _ _ _ _).trans (grown_set _ _ _ _)).trans (grown_set _ _ _ _)
         have HT := hidS (box3_set2 (box3_set1 (box3_set0 t5 (.int .i64 ep)) (.slice ax 15 cx)) (.slice ay ny cy))
         have gI := hidS (((show Ints w2.heap.size (.slice ax 15 cx) vs w4.drew from I4.out).kept hg5 (fun k e e' => by cases e; have := HX.out.1 _ e'; omega)).kept gst (fun k e e' => by cases e; have := HX.out.1 _ e'; omega))
         have gS6 := hidS (((show Seats w2.heap.size (.slice ay ny cy) ss w4.drew from S4.out).kept hg5 (fun k e e' => by cases e; have := HX.out.2 _ e'; omega)).kept gst (fun k e e' => by cases e; have := HX.out.2 _ e'; omega))
         have B5 : Below W.heap.size W w5 := B4.out.drew.grown hg5 B4.out.drew.size (fun k e => by cases e; omega)
         have gB := hidS (B5.grown gst B5.size (fun k e => by cases e; exact Nat.le_refl _))
         clear gst B5 t5 hg5 hR5 hws
         go_wp2
         obtain ⟨⟨z0, z1, z2⟩, _, _, _⟩ := box3 HT.out
         exact bodyPost_ret (v := .tuple #[svv ep (.slice ax 15 cx) (.slice ay ny cy), .int .i64 m]) (by simp [results, Try.results5, go_sem, z0, z1, z2]) rfl ⟨ep, ax, cx, ay, ny, cy, vs, ss, m, rfl, HV.out.1, HV.out.2.1, HV.out.2.2, gI.out.mono (by omega), gS6.out.mono (by omega), gB.out⟩)
end Go.Proofs.Ytchdfkdhjgdgdaa
/- MembersOf of the program. -/
namespace Go.Proofs.Ytchdfkdhjgdgdaa
open Go.RowKit

def membersL (ep : Int) (vs : List Int) (ss : List (Int × Int)) : List Int := if serverB ep vs ss = true then ss.map Prod.fst else []
theorem take_map_succ (ss : List (Int × Int)) (k : Nat) (h : k < ss.length) : (ss.take (k + 1)).map Prod.fst = (ss.take k).map Prod.fst ++ [ss[k].1] := by
  rw [List.take_succ_eq_append_getElem h, List.map_append]; rfl
theorem serverB_seats {ep : Int} {vs : List Int} {ss : List (Int × Int)} (h : serverB ep vs ss = true) : ss.length ≤ 8 := by
  simp [serverB, seatsB] at h
  exact h.2.2.1
theorem none_ints (B : Nat) (w : World) : Ints B (.slice none 0 0) [] w := ⟨by simp, .inl ⟨rfl, rfl⟩⟩

set_option maxRecDepth 100000 in
set_option maxHeartbeats 2000000 in
theorem membersOf_any {B C : Nat} {x y : Value} {vs : List Int} {ss : List (Int × Int)} {w : World} (ep : Int) (hx : Ints B x vs w) (hy : Seats C y ss w) :
    Calls Try.prog 10 #[svv ep x y] w fun e w' => ∃ v, e = .returned v ∧ Ints w.heap.size v (membersL ep vs ss) w' ∧ Below w.heap.size w w' := by
  obtain ⟨i0, hi, hz0, hz1, hz2⟩ := info_parts infoI
  have hB1 := one_below w (svb ep x y)
  obtain ⟨c0, c1, c2⟩ := scell3 w ep x y
  have hX := hx.since hB1
  have hY := hy.since hB1
  clear hx hy
  go_enter Try.func10, Try.ntmps10
  go_wp2_with fail
  generalize w.alloc (svb ep x y) = w1 at hB1 c0 c1 c2 hX hY ⊢
  refine (serverOk_any ep hX hY).mono ?_
  rintro e w2 ⟨rfl, b2⟩
  have hB2 := more hB1 b2
  have d2 := cell_since c2 b2
  have hY2 := hY.since b2
  obtain ⟨a, c, hv, hm, hrow⟩ := hY2.row
  subst hv
  clear c0 c1 c2 hX hY b2 hB1 hY2
  cases hok : serverB ep vs ss with
  | false =>
    have HM : Hid (membersL ep vs ss = []) := by show membersL ep vs ss = []; simp [membersL, hok]
    go_wp2
    go_ret
    exact ⟨_, rfl, by rw [HM.out]; exact none_ints _ _, hB2⟩
  | true =>
    have HM : Hid (membersL ep vs ss = ss.map Prod.fst) := by show membersL ep vs ss = _; simp [membersL, hok]
    have h8 : ss.length ≤ 8 := serverB_seats hok
    have HR : Hid (KRow a ss w2) := hrow
    clear hrow hok hm
    have hs2 := hB2.size
    generalize hn : ss.length = n at d2 h8 ⊢
    go_wp2
    go_loopw [3, 12] (fun v i wr => ∃ k : Nat, k ≤ n ∧ i = .int .i64 (k : Int) ∧ Ints w2.heap.size v ((ss.take k).map Prod.fst) wr ∧ Below w2.heap.size w2 wr) (fun _ i _ => n - (intOf i).toNat)
    case atStart => exact ⟨0, Nat.zero_le _, rfl, none_ints _ _, Below.refl _ _⟩
    case round =>
      obtain ⟨k, hk, rfl, hI, hB⟩ := hrel
      have hsz := hB.size
      by_cases hlt : k < n
      · have hlk : k < ss.length := by omega
        obtain ⟨g, ha, hg, hseg⟩ : ∃ g, a = some ⟨g, 0, none⟩ ∧ g < w2.heap.size ∧ KSeg g 0 ss w2 := by
          rcases HR.out with e | e
          · rw [e] at hlk; simp at hlk
          · exact e
        subst ha
        obtain ⟨a1, a2⟩ := hseg k hlk
        simp only [Nat.zero_add] at a1 a2
        have e1 := cell_since a1 hB
        have e2 := cell_since a2 hB
        have HT : Hid ((ss.take (k + 1)).map Prod.fst = (ss.take k).map Prod.fst ++ [ss[k].1]) := take_map_succ ss k hlk
        have hll : ((ss.take k).map Prod.fst).length ≤ 8 := by simp; omega
        clear a1 a2 hseg
        generalize ss[k].1 = p at e1 HT
        generalize ss[k].2 = q at e2
        have hI2 := hI.since (one_below wr (sb p q))
        have hB3 := hB.alloc hsz (sb p q)
        have HC := hidOf' (cell_one_new (wr.alloc (sb p q)) (.int .i64 p) 2)
        rw [World.size_alloc] at HC
        clear hI hB
        go_wp2_with (at_builtin; refine wpList_append_own _ rfl _ _ 24 rfl w2.heap.size 2 i0 (.int .i64 0) 1 8 Try.underlying24 hi hz0 hz1 hz2 rfl (by decide) _ _ _ rfl (World.ownsRow.alloc hI2 _) ⟨wr.heap.size + 1, 0, none⟩ 1 1 [.int .i64 p] rfl rfl HC.out (by simp [Value.oneCell']) (by unfold maxLen; omega) (by omega) (by simp; omega) ?_; intro v' w3 hown' hgrow _)
        go_roundw
        case rel => exact ⟨k + 1, by omega, by go_num, by unfold Ints; rw [HT.out]; simpa using hown', app_below hI2 hB3 hgrow (by simp; omega)⟩
        case measure => simp [intOf]; omega
      · have e : k = n := by omega
        have HE : Hid ((ss.take k).map Prod.fst = ss.map Prod.fst) := by show (ss.take k).map Prod.fst = _; rw [List.take_of_length_le (by omega)]
        go_wp2
        go_ret
        exact ⟨_, rfl, by rw [HM.out, ← HE.out]; exact hI.mono hs2, more hB2 hB⟩
end Go.Proofs.Ytchdfkdhjgdgdaa
/- KeyAt of the program and of the model. -/
namespace Go.Proofs.Ytchdfkdhjgdgdaa
open Go.RowKit

set_option maxHeartbeats 1000000 in
theorem implKeyAt_any {B C : Nat} {x y : Value} {vs : List Int} {ss : List (Int × Int)} {w : World} (ep node : Int) (hx : Ints B x vs w) (hy : Seats C y ss w) :
    Calls Try.prog 11 #[svv ep x y, .int .i64 node] w fun e w' => e = .returned (.tuple #[kv (atK ep vs ss node).1 (atK ep vs ss node).2, .bool (atB ep vs ss node)]) ∧ Below w.heap.size w w' := by
  obtain ⟨c0, c1, c2⟩ := scell3 w ep x y
  have d0 := cell_since c0 (one_below _ (kb 0 0))
  have d1 := cell_since c1 (one_below _ (kb 0 0))
  have d2 := cell_since c2 (one_below _ (kb 0 0))
  have hB2 := two_below w (svb ep x y) (kb 0 0)
  have hX := hx.since hB2
  have hY := hy.since hB2
  have bR : ((w.alloc (svb ep x y)).alloc (kb 0 0)).heap[w.heap.size + 1]? = some (kb 0 0) := by
    have := heap_alloc_new (w.alloc (svb ep x y)) (kb 0 0)
    simpa using this
  have hs0 : ((w.alloc (svb ep x y)).alloc (kb 0 0)).heap.size = w.heap.size + 1 + 1 := by simp
  clear c0 c1 c2 hx hy
  go_enter Try.func11, Try.ntmps11
  go_wp2_with fail
  generalize (w.alloc (svb ep x y)).alloc (kb 0 0) = w1 at d0 d1 d2 hB2 hX hY bR hs0 ⊢
  refine (serverOk_any ep hX hY).mono ?_
  rintro e w2 ⟨rfl, b2⟩
  have e0 := cell_since d0 b2
  have e1 := cell_since d1 b2
  have e2 := cell_since d2 b2
  have hX2 := hX.since b2
  have hB3 := more hB2 b2
  have bR2 := (b2.block (w.heap.size + 1) (by omega)).trans bR
  have hsz := b2.size
  obtain ⟨r0, r1, f0, f1⟩ : w2.cell? ⟨w.heap.size + 1, 0, none⟩ = some (.int .i64 0) ∧ w2.cell? ⟨w.heap.size + 1, 1, none⟩ = some (.int .i64 0) ∧ w2.frozen? ⟨w.heap.size + 1, 0, none⟩ = false ∧ w2.frozen? ⟨w.heap.size + 1, 1, none⟩ = false := by
    simp [World.cell?, World.frozen?, bR2]
  clear d0 d1 d2 hB2 hX hY bR b2
  have HB : Hid (Below w.heap.size w ((w2.setCell ⟨w.heap.size + 1, 0, none⟩ (.int .i64 0)).setCell ⟨w.heap.size + 1, 1, none⟩ (.int .i64 0))) := (hB3.setCell (by simp) _).setCell (by simp) _
  have HF : Hid (((w2.setCell ⟨w.heap.size + 1, 0, none⟩ (.int .i64 0)).setCell ⟨w.heap.size + 1, 1, none⟩ (.int .i64 0)).heap[w.heap.size + 1]? = some (kb 0 0)) := by show _ = _; simp [World.setCell, Array.getElem?_modify, bR2]
  cases hok : serverB ep vs ss with
  | false =>
    have HG : Hid (atK ep vs ss node = (0, 0) ∧ atB ep vs ss node = false) := by show atK ep vs ss node = (0, 0) ∧ atB ep vs ss node = false; simp [atK, atB, hok]
    go_wp2
    have bF := HF.out
    have gB := HB.out
    have gG := HG.out
    clear HF HB HG
    generalize (w2.setCell ⟨w.heap.size + 1, 0, none⟩ (.int .i64 0)).setCell ⟨w.heap.size + 1, 1, none⟩ (.int .i64 0) = WF at bF gB ⊢
    obtain ⟨z0, z1⟩ : WF.cell? ⟨w.heap.size + 1, 0, none⟩ = some (.int .i64 0) ∧ WF.cell? ⟨w.heap.size + 1, 1, none⟩ = some (.int .i64 0) := by simp [World.cell?, bF]
    exact bodyPost_ret (v := .tuple #[kv 0 0, .bool false]) (by simp [results, Try.results11, go_sem, z0, z1]) rfl ⟨by rw [gG.1, gG.2], gB⟩
  | true =>
    go_wp2_with fail
    refine (isNodeK_any _ _).mono ?_
    rintro e w' ⟨rfl, hww⟩
    subst w'
    cases hin : decide (1 ≤ node ∧ node ≤ 15) with
    | false =>
      have HG : Hid (atK ep vs ss node = (0, 0) ∧ atB ep vs ss node = false) := by show atK ep vs ss node = (0, 0) ∧ atB ep vs ss node = false; simp [atK, atB, hin]
      go_wp2
      have bF := HF.out
      have gB := HB.out
      have gG := HG.out
      clear HF HB HG
      generalize (w2.setCell ⟨w.heap.size + 1, 0, none⟩ (.int .i64 0)).setCell ⟨w.heap.size + 1, 1, none⟩ (.int .i64 0) = WF at bF gB ⊢
      obtain ⟨z0, z1⟩ : WF.cell? ⟨w.heap.size + 1, 0, none⟩ = some (.int .i64 0) ∧ WF.cell? ⟨w.heap.size + 1, 1, none⟩ = some (.int .i64 0) := by simp [World.cell?, bF]
      exact bodyPost_ret (v := .tuple #[kv 0 0, .bool false]) (by simp [results, Try.results11, go_sem, z0, z1]) rfl ⟨by rw [gG.1, gG.2], gB⟩
    | true =>
      have hnn := of_decide_eq_true hin
      obtain ⟨j, rfl⟩ : ∃ j : Nat, node = (j : Int) + 1 := ⟨(node - 1).toNat, by omega⟩
      have hj : j < 15 := by omega
      have hvl : vs.length = 15 := serverB_len hok
      have HG : Hid (atK ep vs ss ((j : Int) + 1) = ((j : Int) + 1, vAt vs j) ∧ atB ep vs ss ((j : Int) + 1) = true) := by
        show atK ep vs ss ((j : Int) + 1) = ((j : Int) + 1, vAt vs j) ∧ atB ep vs ss ((j : Int) + 1) = true
        have e : ((j : Int) + 1 - 1).toNat = j := by omega
        simp only [atK, atB, hok, hin, e, Bool.and_true, if_true, and_self]
      clear HB HF hnn
      go_wp2_with fail
      refine (keyAt_any ep j hj hvl hX2).mono ?_
      rintro e w3 ⟨rfl, b3⟩
      have hB4 := more hB3 b3
      have bR3 := (b3.block (w.heap.size + 1) (by omega)).trans bR2
      obtain ⟨r0, r1, f0, f1⟩ : w3.cell? ⟨w.heap.size + 1, 0, none⟩ = some (.int .i64 0) ∧ w3.cell? ⟨w.heap.size + 1, 1, none⟩ = some (.int .i64 0) ∧ w3.frozen? ⟨w.heap.size + 1, 0, none⟩ = false ∧ w3.frozen? ⟨w.heap.size + 1, 1, none⟩ = false := by
        simp [World.cell?, World.frozen?, bR3]
      obtain ⟨Y, hyy⟩ : ∃ Y, vAt vs j = Y := ⟨_, rfl⟩
      rw [hyy] at HG ⊢
      have HB : Hid (Below w.heap.size w ((w3.setCell ⟨w.heap.size + 1, 0, none⟩ (.int .i64 ((j : Int) + 1))).setCell ⟨w.heap.size + 1, 1, none⟩ (.int .i64 Y))) := (hB4.setCell (by simp) _).setCell (by simp) _
      have HF : Hid (((w3.setCell ⟨w.heap.size + 1, 0, none⟩ (.int .i64 ((j : Int) + 1))).setCell ⟨w.heap.size + 1, 1, none⟩ (.int .i64 Y)).heap[w.heap.size + 1]? = some (kb ((j : Int) + 1) Y)) := by show _ = _; simp [World.setCell, Array.getElem?_modify, bR3]
      clear e0 e1 e2 hX2 hB3 bR2 hB4 bR3 b3 hyy
      go_wp2
      have bF := HF.out
      have gB := HB.out
      have gG := HG.out
      clear HF HB HG
      generalize (w3.setCell ⟨w.heap.size + 1, 0, none⟩ (.int .i64 ((j : Int) + 1))).setCell ⟨w.heap.size + 1, 1, none⟩ (.int .i64 Y) = WF at bF gB ⊢
      obtain ⟨z0, z1⟩ : WF.cell? ⟨w.heap.size + 1, 0, none⟩ = some (.int .i64 ((j : Int) + 1)) ∧ WF.cell? ⟨w.heap.size + 1, 1, none⟩ = some (.int .i64 Y) := by simp [World.cell?, bF]
      exact bodyPost_ret (v := .tuple #[kv ((j : Int) + 1) Y, .bool true]) (by simp [results, Try.results11, go_sem, z0, z1]) rfl ⟨by rw [gG.1, gG.2], gB⟩

end Go.Proofs.Ytchdfkdhjgdgdaa
/- What the drawn law of KeysFor asks of the keys: facts on lists. -/
namespace Go.Proofs.Ytchdfkdhjgdgdaa
open Go.RowKit

theorem kf_has (ep : Int) (vs : List Int) (ss : List (Int × Int)) (m : Int) : decide (m ∈ membersL ep vs ss) = kfB ep vs ss m := by
  unfold membersL kfB
  cases h : serverB ep vs ss with
  | false => simp
  | true =>
    rw [if_pos rfl, Bool.true_and]
    unfold seatOf
    rw [Option.isSome_map, Bool.eq_iff_iff, decide_eq_true_iff, List.find?_isSome]
    simp
theorem path_is {l : Int} (h : 8 ≤ l ∧ l ≤ 15) : path l = [l, l / 2, l / 4, 1] := by
  have : l = 8 ∨ l = 9 ∨ l = 10 ∨ l = 11 ∨ l = 12 ∨ l = 13 ∨ l = 14 ∨ l = 15 := by omega
  rcases this with rfl | rfl | rfl | rfl | rfl | rfl | rfl | rfl <;> decide
/-- The four keys of a member that has a seat. -/
theorem kf_four {ep : Int} {vs : List Int} {ss : List (Int × Int)} {m : Int} (h : kfB ep vs ss m = true) :
    serverB ep vs ss = true ∧ ∃ a b c : Int, kfL ep vs ss m = [(1, vAt vs 0), (a, vAt vs (a - 1).toNat), (b, vAt vs (b - 1).toNat), (c, vAt vs (c - 1).toNat)] ∧ 1 < a ∧ a < b ∧ b < c ∧ c ≤ 15 ∧ path c = [c, b, a, 1] := by
  have h0 := h
  unfold kfB at h
  simp only [Bool.and_eq_true] at h
  obtain ⟨l, hl⟩ := Option.isSome_iff_exists.1 h.2
  have hr := seatOf_leaf h.1 hl
  have e : leafV ss m = l := by unfold leafV; rw [hl]; rfl
  have hp := path_is hr
  refine ⟨h.1, l / 4, l / 2, l, ?_, by omega, by omega, by omega, by omega, hp⟩
  unfold kfL keysOn
  rw [if_pos h0, e, hp]
  have e1 : (l / 4 - 1).toNat = (l / 4).toNat - 1 := by omega
  have e2 : (l / 2 - 1).toNat = (l / 2).toNat - 1 := by omega
  have e3 : (l - 1).toNat = l.toNat - 1 := by omega
  simp [e1, e2, e3]
theorem at_right {ep : Int} {vs : List Int} {ss : List (Int × Int)} {n : Int} (h : serverB ep vs ss = true) (hn : 1 ≤ n ∧ n ≤ 15) : atK ep vs ss n = (n, vAt vs (n - 1).toNat) ∧ atB ep vs ss n = true := by
  simp [atK, atB, h, hn]
theorem four_known {ep : Int} {vs : List Int} {ss : List (Int × Int)} {a b c : Int} (h : serverB ep vs ss = true) (h1 : 1 < a) (h2 : a < b) (h3 : b < c) (h4 : c ≤ 15) :
    knownB [(1, vAt vs 0), (a, vAt vs (a - 1).toNat), (b, vAt vs (b - 1).toNat), (c, vAt vs (c - 1).toNat)] = true ∧ nodesTo [(1, vAt vs 0), (a, vAt vs (a - 1).toNat), (b, vAt vs (b - 1).toNat), (c, vAt vs (c - 1).toNat)] 4 = true := by
  have hv : versB vs = true := by
    simp only [serverB, Bool.and_eq_true] at h
    exact h.2.1
  obtain ⟨_, hv⟩ := versB_iff.1 hv
  have v0 := hv 0 (by omega)
  have v1 := hv (a - 1).toNat (by omega)
  have v2 := hv (b - 1).toNat (by omega)
  have v3 := hv (c - 1).toNat (by omega)
  generalize vAt vs 0 = y0 at *
  generalize vAt vs (a - 1).toNat = y1 at *
  generalize vAt vs (b - 1).toNat = y2 at *
  generalize vAt vs (c - 1).toNat = y3 at *
  constructor
  · simp only [knownB, allTo, List.length_cons, List.length_nil, Bool.and_eq_true, decide_eq_true_eq]
    refine ⟨by omega, ?_⟩
    simp only [List.all_eq_true, List.mem_range]
    intro i hi
    have : i = 0 ∨ i = 1 ∨ i = 2 ∨ i = 3 := by omega
    rcases this with rfl | rfl | rfl | rfl <;> simp [okAt, kAt, okK, aheadB] <;> omega
  · simp only [nodesTo, List.all_eq_true, List.mem_range]
    intro i hi
    have : i = 0 ∨ i = 1 ∨ i = 2 ∨ i = 3 := by omega
    rcases this with rfl | rfl | rfl | rfl <;> simp [nodeAt, kAt] <;> omega
end Go.Proofs.Ytchdfkdhjgdgdaa
/- The contracts of MemberOk, of the program and of the model. -/
namespace Go.Proofs.Ytchdfkdhjgdgdaa
open Go.RowKit

abbrev mb (id ep : Int) (v : Value) : Obj := .cells #[.int .i64 id, .int .i64 ep, v] 120
theorem cell3 (w : World) (x y : Int) (v : Value) : (w.alloc (mb x y v)).cell? ⟨w.heap.size, 0, none⟩ = some (.int .i64 x) ∧ (w.alloc (mb x y v)).cell? ⟨w.heap.size, 1, none⟩ = some (.int .i64 y) ∧ (w.alloc (mb x y v)).cell? ⟨w.heap.size, 2, none⟩ = some v := by simp
theorem below_drewN' {n : Nat} {w W : World} (h : Below n w W) (k : Nat) : Below n w (W.drewN k) := ⟨h.os, h.tape, h.output, h.size, h.block⟩

end Go.Proofs.Ytchdfkdhjgdgdaa
/- sameKeys of the laws, of two lists that are the same. -/
namespace Go.Proofs.Ytchdfkdhjgdgdaa
open Go.RowKit

set_option maxHeartbeats 1000000 in
theorem sameKeys_self {B C : Nat} {u v : Value} {xs : List (Int × Int)} {w : World} (hx : Keys B u xs w) (hy : Keys C v xs w) :
    Calls Try.prog 8 #[u, v] w fun e w' => e = .returned (.bool true) ∧ Below w.heap.size w w' := by
  obtain ⟨a, c, rfl, hm, hrow⟩ := hx.row
  obtain ⟨a', c', rfl, _, hrow'⟩ := hy.row
  clear hx hy
  unfold maxLen at hm
  have HR : Hid (KRow a xs w) := hrow
  have HR' : Hid (KRow a' xs w) := hrow'
  clear hrow hrow'
  generalize hn : xs.length = n at hm ⊢
  go_enter Try.func8, Try.ntmps8
  go_wp2
  go_loopw [5] (fun i wr => ∃ k : Nat, k ≤ n ∧ i = .int .i64 k ∧ ∃ q, wr = w.drewN q) (fun i _ => n - (intOf i).toNat)
  case atStart => exact ⟨0, Nat.zero_le _, rfl, 0, rfl⟩
  case round =>
    obtain ⟨k, hk, rfl, q, rfl⟩ := hrel
    by_cases hlt : k < n
    · have hlk : k < xs.length := by omega
      obtain ⟨g, ha, hg, hseg⟩ : ∃ g, a = some ⟨g, 0, none⟩ ∧ g < w.heap.size ∧ KSeg g 0 xs w := by
        rcases HR.out with e | e
        · rw [e] at hlk; simp at hlk
        · exact e
      obtain ⟨g', ha', hg', hseg'⟩ : ∃ g, a' = some ⟨g, 0, none⟩ ∧ g < w.heap.size ∧ KSeg g 0 xs w := by
        rcases HR'.out with e | e
        · rw [e] at hlk; simp at hlk
        · exact e
      subst ha ha'
      obtain ⟨c1, c2⟩ := hseg k hlk
      obtain ⟨d1, d2⟩ := hseg' k hlk
      simp only [Nat.zero_add] at c1 c2 d1 d2
      clear hseg hseg'
      generalize xs[k].1 = p at *
      generalize xs[k].2 = r at *
      go_wp2
      go_quiet (fail)
      go_wp2
      go_roundw
      case rel => exact ⟨k + 1, by omega, by go_num, q + nq, by simp⟩
      case measure => simp [intOf]; omega
    · go_wp2
      go_ret
      exact ⟨rfl, below_drewN' (Below.refl _ _) _⟩
end Go.Proofs.Ytchdfkdhjgdgdaa
/- hasInt of the laws: is a number in a list? -/
namespace Go.Proofs.Ytchdfkdhjgdgdaa
open Go.RowKit

set_option maxHeartbeats 400000 in
theorem hasInt_any {B : Nat} {v : Value} {xs : List Int} {w : World} (x : Int) (hx : Ints B v xs w) :
    Calls Try.prog 9 #[v, .int .i64 x] w fun e w' => e = .returned (.bool (decide (x ∈ xs))) ∧ w' = w := by
  have hm := hx.len_le
  unfold maxLen at hm
  rcases hx.form with ⟨rfl, rfl⟩ | ⟨g, cap, rfl, _, _, _, _, h3⟩
  · go_enter Try.func9, Try.ntmps9
    go_wp2
    refine wp_loop_rounds 1 ?_
    rw [rounds_succ]
    go_wp2
    go_ret
    exact ⟨by simp, rfl⟩
  · have hc0 : ∀ i (hi : i < xs.length), w.cell? ⟨g, i, none⟩ = some (.int .i64 xs[i]) := fun i hi => (h3 i hi).1
    clear h3 hx
    go_enter Try.func9, Try.ntmps9
    go_wp2
    go_loop [5] (fun i => ∃ k : Nat, k ≤ xs.length ∧ i = .int .i64 k ∧ ¬ x ∈ xs.take k) (fun i => xs.length - (intOf i).toNat)
    case atStart => exact ⟨0, Nat.zero_le _, rfl, by simp⟩
    case round =>
      obtain ⟨k, hk, rfl, hno⟩ := hrel
      have HN : Hid (¬ x ∈ xs.take k) := hno
      clear hno
      by_cases hlt : k < xs.length
      · have hc := hc0 k hlt
        go_wp2
        · have he : (xs[k] == x) = true := by assumption
          go_ret
          refine ⟨?_, rfl⟩
          have hin : x ∈ xs := by have : xs[k] = x := by simpa using he
                                  exact this ▸ List.getElem_mem hlt
          show Ending.returned (.bool true) = _
          rw [decide_eq_true hin]
        · have he : (xs[k] == x) = false := by assumption
          go_round
          case rel =>
            refine ⟨k + 1, by omega, by go_num, fun h => ?_⟩
            rw [List.take_succ_eq_append_getElem hlt] at h
            rcases List.mem_append.1 h with h | h
            · exact HN.out h
            · simp at h; subst h; simp at he
          case measure => simp [intOf]; omega
      · go_wp2
        go_ret
        refine ⟨?_, rfl⟩
        have hno : ¬ x ∈ xs := by have := HN.out; rwa [List.take_of_length_le (by omega)] at this
        show Ending.returned (.bool false) = _
        rw [decide_eq_false hno]
end Go.Proofs.Ytchdfkdhjgdgdaa
/- The walk of the drawn law of KeysFor: it answers true at every code, and nothing that lay there turns. -/
namespace Go.Proofs.Ytchdfkdhjgdgdaa
open Go.RowKit

/-- What the law holds while it is walked. -/
structure KfS (W0 : World) (B P C D : Nat) (ep : Int) (vx vy vl vr : Value) (vs : List Int) (ss ks : List (Int × Int)) (W : World) : Prop where
  x : Ints B vx vs W
  y : Seats B vy ss W
  b : W.heap[P]? = some (svb ep vx vy)
  l : Keys C vl ks W
  r : Keys D vr ks W
  bel : Below W0.heap.size W0 W
theorem KfS.since {W0 : World} {B P C D : Nat} {ep : Int} {vx vy vl vr : Value} {vs : List Int} {ss ks : List (Int × Int)} {W W' : World} (h : KfS W0 B P C D ep vx vy vl vr vs ss ks W) (hb : Below W.heap.size W W') : KfS W0 B P C D ep vx vy vl vr vs ss ks W' :=
  ⟨h.x.since hb, h.y.since hb, blkSince h.b hb, keys_since h.l hb, keys_since h.r hb, more h.bel hb⟩

set_option maxRecDepth 100000 in
set_option maxHeartbeats 4000000 in
theorem fnKeysFor_any (a : Option Addr) (len cap : Nat) (W : World) (h : Q.Bytes W.heap.size a len W) :
    Calls Try.prog 3 #[.slice a len cap] W fun e W' => e = .returned (.bool true) ∧ Below W.heap.size W W' := by
  have hlen := h.1
  unfold maxLen at hlen
  by_cases hbig : (1048576 : Int) < (len : Int)
  · have hd : decide ((1048576 : Int) < (len : Int)) = true := decide_eq_true hbig
    go_enter Try.func3, Try.ntmps3
    go_wp2_with fail
    refine (Q.big_any _ _ _ _).mono ?_
    rintro e w' ⟨rfl, rfl⟩
    rw [hd]
    go_wp2
    go_ret
    exact ⟨rfl, Below.refl _ _⟩
  · have hd : decide ((1048576 : Int) < (len : Int)) = false := decide_eq_false hbig
    go_enter Try.func3, Try.ntmps3
    go_wp2_with fail
    refine (Q.big_any _ _ _ _).mono ?_
    rintro e w' ⟨rfl, hww⟩
    subst w'
    rw [hd]
    go_wp2_with fail
    refine (drawKeysFor_any a len cap W h).mono ?_
    rintro e w1 ⟨ep, ax, cx, ay, ny, cy, vs, ss, m, rfl, hv15, hny, h9, i1, s1, b1⟩
    have hb2 := one_below w1 (svb ep (.slice ax 15 cx) (.slice ay ny cy))
    have I2 := hidS (i1.since hb2)
    have S2 := hidS (s1.since hb2)
    have t2 := heap_alloc_new w1 (svb ep (.slice ax 15 cx) (.slice ay ny cy))
    have B2 := hidS (more b1 hb2)
    clear i1 s1 b1 hb2 hd h
    obtain ⟨⟨o0, o1, o2⟩, _, _, _⟩ := box3 t2
    go_wp2_with fail
    generalize w1.alloc (svb ep (.slice ax 15 cx) (.slice ay ny cy)) = w2 at *
    refine (keysFor_any ep m I2.out S2.out).mono ?_
    rintro e w3 ⟨a3, c3, rfl, k3, b3⟩
    have I3 := hidS (I2.out.since b3)
    have S3 := hidS (S2.out.since b3)
    have t3 := blkSince t2 b3
    have B3 := hidS (more B2.out b3)
    clear I2 S2 t2 B2 b3 o0 o1 o2
    obtain ⟨⟨o0, o1, o2⟩, _, _, _⟩ := box3 t3
    have K3 := hidS k3
    clear k3
    obtain ⟨F, HF⟩ : ∃ F, Hid (kfB ep vs ss m = F) := ⟨_, rfl⟩
    rw [HF.out]
    go_wp2_with fail
    refine (specKeysFor_any ep m I3.out S3.out).mono ?_
    rintro e w4 ⟨a4, c4, rfl, k4, b4⟩
    have HS := hidS (KfS.mk (I3.out.since b4) (S3.out.since b4) (blkSince t3 b4) (keys_since K3.out b4) k4 (more B3.out b4))
    clear I3 S3 t3 B3 K3 k4 b4 o0 o1 o2
    rw [HF.out]
    obtain ⟨⟨o0, o1, o2⟩, _, _, _⟩ := box3 HS.out.b
    cases F with
    | false =>
      rw [kf_not HF.out] at HS ⊢
      go_wp2_with fail
      refine (sameKeys_self HS.out.l HS.out.r).mono ?_
      rintro e w5 ⟨rfl, b5⟩
      have HS5 := hidS (HS.out.since b5)
      clear HS b5 o0 o1 o2
      obtain ⟨⟨o0, o1, o2⟩, _, _, _⟩ := box3 HS5.out.b
      go_wp2_with fail
      refine (membersOf_any ep HS5.out.x HS5.out.y).mono ?_
      rintro e w6 ⟨v6, rfl, i6, b6⟩
      have HS6 := hidS (HS5.out.since b6)
      clear HS5 b6 o0 o1 o2
      obtain ⟨⟨o0, o1, o2⟩, _, _, _⟩ := box3 HS6.out.b
      go_wp2_with fail
      refine (hasInt_any m i6).mono ?_
      rintro e w' ⟨rfl, hww⟩
      subst w'
      rw [kf_has, HF.out]
      clear i6
      go_wp2_with fail
      refine (sameKeys_self HS6.out.l HS6.out.r).mono ?_
      rintro e w7 ⟨rfl, b7⟩
      have HS7 := hidS (HS6.out.since b7)
      clear HS6 b7 o0 o1 o2
      obtain ⟨⟨o0, o1, o2⟩, _, _, _⟩ := box3 HS7.out.b
      go_wp2_with fail
      refine (membersOf_any ep HS7.out.x HS7.out.y).mono ?_
      rintro e w8 ⟨v8, rfl, i8, b8⟩
      have HS8 := hidS (HS7.out.since b8)
      clear HS7 b8 o0 o1 o2
      go_wp2_with fail
      refine (hasInt_any m i8).mono ?_
      rintro e w' ⟨rfl, hww⟩
      subst w'
      rw [kf_has, HF.out]
      clear i8
      go_wp2
      go_ret
      exact ⟨rfl, HS8.out.bel⟩
    | true =>
      obtain ⟨hsv, na, nb, nc, hL, h1a, hab, hbc, hc15, hpath⟩ := kf_four HF.out
      obtain ⟨hkn, _⟩ := four_known hsv h1a hab hbc hc15
      have hl4 : (kfL ep vs ss m).length = 4 := by rw [hL]; rfl
      rw [hl4] at HS ⊢
      obtain ⟨L, HL⟩ : ∃ L, Hid (kfL ep vs ss m = L) := ⟨_, rfl⟩
      rw [HL.out] at HS hL
      have HLl := hidS (show L.length = 4 by rw [hL]; rfl)
      have HKn := hidS (show knownB L = true by rw [hL]; exact hkn)
      have HAt := hidS (show ∀ k ∈ L, atK ep vs ss k.1 = k ∧ atB ep vs ss k.1 = true ∧ k.1 ∈ path nc by
        intro k hk
        rw [hL] at hk
        simp only [List.mem_cons, List.not_mem_nil, or_false] at hk
        rw [hpath]
        rcases hk with rfl | rfl | rfl | rfl
        · exact ⟨(at_right hsv (by omega)).1, (at_right hsv (by omega)).2, by simp⟩
        · exact ⟨(at_right hsv (by omega)).1, (at_right hsv (by omega)).2, by simp⟩
        · exact ⟨(at_right hsv (by omega)).1, (at_right hsv (by omega)).2, by simp⟩
        · exact ⟨(at_right hsv (by omega)).1, (at_right hsv (by omega)).2, by simp⟩)
      have HL3 := hidS (show ∀ h : 3 < L.length, L[3].1 = nc by subst hL; intro _; rfl)
      have HL0 := hidS (show ∀ h : 0 < L.length, L[0] = (1, vAt vs 0) by subst hL; intro _; rfl)
      have HR1 := hidS (at_right hsv (show 1 ≤ (1 : Int) ∧ (1 : Int) ≤ 15 by omega))
      clear hkn hpath hL hsv h1a hab hbc hc15 hl4
      go_wp2_with fail
      refine (sameKeys_self HS.out.l HS.out.r).mono ?_
      rintro e w5 ⟨rfl, b5⟩
      have HS5 := hidS (HS.out.since b5)
      clear HS b5 o0 o1 o2
      obtain ⟨⟨o0, o1, o2⟩, _, _, _⟩ := box3 HS5.out.b
      go_wp2_with fail
      refine (membersOf_any ep HS5.out.x HS5.out.y).mono ?_
      rintro e w6 ⟨v6, rfl, i6, b6⟩
      have HS6 := hidS (HS5.out.since b6)
      clear HS5 b6 o0 o1 o2
      go_wp2_with fail
      refine (hasInt_any m i6).mono ?_
      rintro e w' ⟨rfl, hww⟩
      subst w'
      rw [kf_has, HF.out]
      clear i6
      obtain ⟨g, rfl⟩ : ∃ g, a3 = some ⟨g, 0, none⟩ := by
        rcases HS6.out.l.2 with ⟨e, _⟩ | ⟨g, cap, cur, e, _⟩
        · injection e with e1 e2 e3
          cases e2
        · injection e with e1
          exact ⟨g, e1⟩
      have HSeg := hidS (show KSeg g 0 L w6 by
        rcases HS6.out.l.form with ⟨e, _⟩ | ⟨g', cap, e, _, _, _, _, hseg, _⟩
        · cases e
        · injection e with e1
          injection e1 with e1
          injection e1 with e1
          subst e1
          exact hseg)
      go_wp2
      go_loopw [9] (fun i wr => ∃ k : Nat, i = .int .i64 (k : Int) ∧ k ≤ 4 ∧ Below w6.heap.size w6 wr) (fun i _ => 4 - (intOf i).toNat)
      case atStart => exact ⟨0, rfl, by omega, Below.refl _ _⟩
      case round =>
        obtain ⟨k, rfl, hk, hB⟩ := hrel
        have HS := hidS (HS6.out.since hB)
        obtain ⟨⟨o0, o1, o2⟩, _, _, _⟩ := box3 HS.out.b
        by_cases hlt : k < 4
        · have hlk : k < L.length := by have := HLl.out; omega
          have hl3 : 3 < L.length := by have := HLl.out; omega
          obtain ⟨q1, q2⟩ := HSeg.out k hlk
          obtain ⟨r1, r2⟩ := HSeg.out 3 hl3
          simp only [Nat.zero_add] at q1 q2 r1 r2
          rw [HL3.out hl3] at r1
          obtain ⟨hA, hA2, hA3⟩ := HAt.out L[k] (List.getElem_mem hlk)
          obtain ⟨p, q, hpq⟩ : ∃ p q, L[k] = (p, q) := ⟨_, _, rfl⟩
          rw [hpq] at q1 q2 hA hA2 hA3
          clear r2 hpq
          simp only at q1 q2 hA hA2 hA3
          have HA := hidS (And.intro hA (And.intro hA2 hA3))
          have Q1 := hidS q1
          have Q2 := hidS q2
          have R1 := hidS (show w6.cell? ⟨g, 6, none⟩ = some (.int .i64 nc) from r1)
          clear hA hA2 hA3 q1 q2 r1
          have SO := hidS (show ∀ W', Below w6.heap.size w6 W' → (W'.cell? ⟨w1.heap.size, 0, none⟩ = some (.int .i64 ep) ∧ W'.cell? ⟨w1.heap.size, 1, none⟩ = some (.slice ax 15 cx) ∧ W'.cell? ⟨w1.heap.size, 2, none⟩ = some (.slice ay ny cy) ∧ W'.cell? ⟨g, k * 2, none⟩ = some (.int .i64 p) ∧ Below w6.heap.size w6 W') from fun W' hb => by
            obtain ⟨⟨z0, z1, z2⟩, _, _, _⟩ := box3 (HS6.out.since hb).b
            exact ⟨z0, z1, z2, cell_since Q1.out hb, hb⟩)
          go_upto_region 11 with fail
          go_region_held3 (fun W' => W'.cell? ⟨w1.heap.size, 0, none⟩ = some (.int .i64 ep) ∧ W'.cell? ⟨w1.heap.size, 1, none⟩ = some (.slice ax 15 cx) ∧ W'.cell? ⟨w1.heap.size, 2, none⟩ = some (.slice ay ny cy) ∧ W'.cell? ⟨g, k * 2, none⟩ = some (.int .i64 p) ∧ Below w6.heap.size w6 W')
            (first | with_reducible exact SO.out _ hB.drew | with_reducible exact SO.out _ h7 | with_reducible exact SO.out _ (h7.alloc h7.size _) | exact SO.out _ (hB.drew.alloc hB.drew.size _) | exact SO.out _ ((h7.setCell (by have := hB.size; simp; omega) _).setCell (by have := hB.size; simp; omega) _) | fail)
            (first | (go_at_call 11; have hcur := (show Below w6.heap.size w6 _ from (‹_ ∧ _ ∧ _ ∧ _ ∧ Below w6.heap.size w6 _›).2.2.2.2); refine (implKeyAt_any ep p (HS6.out.since hcur).x (HS6.out.since hcur).y).mono ?_; rintro e w7 ⟨rfl, b7⟩; rw [HA.out.1, HA.out.2.1]; have h7 := more hcur b7; (first | (have tk : w7.heap[wr.heap.size]? = some (kb 0 0) := blkSince (heap_alloc_new wr.drew (kb 0 0)) b7; obtain ⟨⟨y0, y1⟩, y2, y3⟩ := box2K tk) | skip)))
          all_goals
            first
              | (have t8 := box2K_set1 (box2K_set0 tk (.int .i64 p)) (.int .i64 q)
                 have B8 := hidS (show Below w6.heap.size w6 ((w7.setCell ⟨wr.heap.size, 0, none⟩ (.int .i64 p)).setCell ⟨wr.heap.size, 1, none⟩ (.int .i64 q)) from (h7.setCell (by have := hB.size; simp; omega) _).setCell (by have := hB.size; simp; omega) _)
                 clear b7 h7 hcur y0 y1 y2 y3 tk
                 generalize (w7.setCell ⟨wr.heap.size, 0, none⟩ (.int .i64 p)).setCell ⟨wr.heap.size, 1, none⟩ (.int .i64 q) = w8 at *
                 obtain ⟨⟨x0, x1⟩, _, _⟩ := box2K t8
                 have SO2 := hidS (show ∀ W', Below w8.heap.size w8 W' → (W'.cell? ⟨wr.heap.size, 0, none⟩ = some (.int .i64 p) ∧ W'.cell? ⟨wr.heap.size, 1, none⟩ = some (.int .i64 q) ∧ W'.cell? ⟨g, k * 2, none⟩ = some (.int .i64 p) ∧ W'.cell? ⟨g, k * 2 + 1, none⟩ = some (.int .i64 q) ∧ W'.cell? ⟨g, 6, none⟩ = some (.int .i64 nc) ∧ Below w8.heap.size w8 W') from fun W' hb => ⟨cell_since x0 hb, cell_since x1 hb, cell_since (cell_since Q1.out B8.out) hb, cell_since (cell_since Q2.out B8.out) hb, cell_since (cell_since R1.out B8.out) hb, hb⟩)
                 clear x0 x1
                 go_upto_region 12 with fail
                 have hpp : (p == p) = true := by simp
                 have hqq : (q == q) = true := by simp
                 have hw3 : IntKind.i64.wrap 3 = 3 := by decide
                 have hw41 : IntKind.i64.wrap ((4 : Int) - 1) = 3 := by decide
                 have h03 : (0 : Int) ≤ 3 := by decide
                 have h34 : (3 : Int) < 4 := by decide
                 go_region_held3 (fun W' => W'.cell? ⟨wr.heap.size, 0, none⟩ = some (.int .i64 p) ∧ W'.cell? ⟨wr.heap.size, 1, none⟩ = some (.int .i64 q) ∧ W'.cell? ⟨g, k * 2, none⟩ = some (.int .i64 p) ∧ W'.cell? ⟨g, k * 2 + 1, none⟩ = some (.int .i64 q) ∧ W'.cell? ⟨g, 6, none⟩ = some (.int .i64 nc) ∧ Below w8.heap.size w8 W')
                   (first | with_reducible exact SO2.out _ (Below.refl _ _).drew | with_reducible exact SO2.out _ h9 | assumption)
                   (first | (go_at_call 12; refine (pathOf_any nc _).mono ?_; rintro e w9 ⟨v9, rfl, i9, b9⟩; have h9 : Below w8.heap.size w8 w9 := (Below.refl _ _).drew.trans b9) | (go_at_call 9; refine (hasInt_any p i9).mono ?_; rintro e w' ⟨rfl, hww⟩; subst w'; rw [decide_eq_true HA.out.2.2]))
                 all_goals
                   have h9' : Below w8.heap.size w8 w9 := h9
                   have BF := hidS (more B8.out h9')
                   go_wp2
                   go_roundw
                   case rel => exact ⟨k + 1, by go_num, by omega, BF.out⟩
                   case measure => simp [intOf]; omega
                )
              | (have t8 := heap_alloc_new w7 (kb p q)
                 have B8 := hidS (show Below w6.heap.size w6 (w7.alloc (kb p q)) from h7.alloc h7.size _)
                 clear b7 h7 hcur
                 generalize w7.alloc (kb p q) = w8 at *
                 obtain ⟨⟨x0, x1⟩, _, _⟩ := box2K t8
                 have SO2 := hidS (show ∀ W', Below w8.heap.size w8 W' → (W'.cell? ⟨w7.heap.size, 0, none⟩ = some (.int .i64 p) ∧ W'.cell? ⟨w7.heap.size, 1, none⟩ = some (.int .i64 q) ∧ W'.cell? ⟨g, k * 2, none⟩ = some (.int .i64 p) ∧ W'.cell? ⟨g, k * 2 + 1, none⟩ = some (.int .i64 q) ∧ W'.cell? ⟨g, 6, none⟩ = some (.int .i64 nc) ∧ Below w8.heap.size w8 W') from fun W' hb => ⟨cell_since x0 hb, cell_since x1 hb, cell_since (cell_since Q1.out B8.out) hb, cell_since (cell_since Q2.out B8.out) hb, cell_since (cell_since R1.out B8.out) hb, hb⟩)
                 clear x0 x1
                 go_upto_region 12 with fail
                 have hpp : (p == p) = true := by simp
                 have hqq : (q == q) = true := by simp
                 have hw3 : IntKind.i64.wrap 3 = 3 := by decide
                 have hw41 : IntKind.i64.wrap ((4 : Int) - 1) = 3 := by decide
                 have h03 : (0 : Int) ≤ 3 := by decide
                 have h34 : (3 : Int) < 4 := by decide
                 go_region_held3 (fun W' => W'.cell? ⟨w7.heap.size, 0, none⟩ = some (.int .i64 p) ∧ W'.cell? ⟨w7.heap.size, 1, none⟩ = some (.int .i64 q) ∧ W'.cell? ⟨g, k * 2, none⟩ = some (.int .i64 p) ∧ W'.cell? ⟨g, k * 2 + 1, none⟩ = some (.int .i64 q) ∧ W'.cell? ⟨g, 6, none⟩ = some (.int .i64 nc) ∧ Below w8.heap.size w8 W')
                   (first | with_reducible exact SO2.out _ (Below.refl _ _).drew | with_reducible exact SO2.out _ h9 | assumption)
                   (first | (go_at_call 12; refine (pathOf_any nc _).mono ?_; rintro e w9 ⟨v9, rfl, i9, b9⟩; have h9 : Below w8.heap.size w8 w9 := (Below.refl _ _).drew.trans b9) | (go_at_call 9; refine (hasInt_any p i9).mono ?_; rintro e w' ⟨rfl, hww⟩; subst w'; rw [decide_eq_true HA.out.2.2]))
                 all_goals
                   have h9' : Below w8.heap.size w8 w9 := h9
                   have BF := hidS (more B8.out h9')
                   go_wp2
                   go_roundw
                   case rel => exact ⟨k + 1, by go_num, by omega, BF.out⟩
                   case measure => simp [intOf]; omega
                )
        · have hk4 : k = 4 := by omega
          subst hk4
          clear hlt hk
          have HSr := hidS (HS6.out.since hB)
          go_wp2_with fail
          refine (implKeyAt_any ep 1 HS.out.x HS.out.y).mono ?_
          rintro e w7 ⟨rfl, b7⟩
          rw [HR1.out.1, HR1.out.2]
          have B8 := hidS (show Below w6.heap.size w6 (w7.alloc (kb 1 (vAt vs ((1 : Int) - 1).toNat))) from (more hB b7).alloc (more hB b7).size _)
          have t8 := heap_alloc_new w7 (kb 1 (vAt vs ((1 : Int) - 1).toNat))
          have hl0 : 0 < L.length := by have := HLl.out; omega
          obtain ⟨q1, q2⟩ := HSeg.out 0 hl0
          rw [HL0.out hl0] at q1 q2
          simp only [Nat.zero_mul, Nat.zero_add] at q1 q2
          have Q1 := hidS q1
          have Q2 := hidS q2
          clear q1 q2 b7 o0 o1 o2
          have hz : ((1 : Int) - 1).toNat = 0 := by decide
          rw [hz] at t8 B8 ⊢
          clear hz
          generalize vAt vs 0 = q at *
          go_upto_region 15 with fail
          generalize w7.alloc (kb 1 q) = w8 at *
          obtain ⟨⟨x0, x1⟩, _, _⟩ := box2K t8
          have SO2 := hidS (show ∀ W', Below w8.heap.size w8 W' → (W'.cell? ⟨w7.heap.size, 0, none⟩ = some (.int .i64 1) ∧ W'.cell? ⟨w7.heap.size, 1, none⟩ = some (.int .i64 q) ∧ W'.cell? ⟨g, 0, none⟩ = some (.int .i64 1) ∧ W'.cell? ⟨g, 1, none⟩ = some (.int .i64 q) ∧ Below w8.heap.size w8 W') from fun W' hb => ⟨cell_since x0 hb, cell_since x1 hb, cell_since (cell_since Q1.out B8.out) hb, cell_since (cell_since Q2.out B8.out) hb, hb⟩)
          clear x0 x1
          have hqq : (q == q) = true := by simp
          go_region_held3 (fun W' => W'.cell? ⟨w7.heap.size, 0, none⟩ = some (.int .i64 1) ∧ W'.cell? ⟨w7.heap.size, 1, none⟩ = some (.int .i64 q) ∧ W'.cell? ⟨g, 0, none⟩ = some (.int .i64 1) ∧ W'.cell? ⟨g, 1, none⟩ = some (.int .i64 q) ∧ Below w8.heap.size w8 W')
            (first | with_reducible exact SO2.out _ (Below.refl _ _).drew | with_reducible exact SO2.out _ h9 | assumption)
            (first | (go_at_call 13; refine (knownOk_any (show Keys w2.heap.size (.slice (some ⟨g, 0, none⟩) 4 c3) L w8.drew from (HS6.out.since B8.out).l)).mono ?_; rintro e w9 ⟨rfl, b9⟩; rw [HKn.out]; have h9 : Below w8.heap.size w8 w9 := (Below.refl _ _).drew.trans b9))
          all_goals
            have h9' : Below w8.heap.size w8 w9 := h9
            have BF := hidS (HS6.out.since (more B8.out h9')).bel
            go_wp2
            go_ret
            exact ⟨rfl, BF⟩
end Go.Proofs.Ytchdfkdhjgdgdaa
