/- What the drawn laws of servers draw: a server. -/
import Derived.Test.YtapmgbnhobpahaaGreatDoorPart9
import Derived.Test.YtapmgbnhobpahaaGreatDoorPart4
import Derived.Deep.RegionHeld3
namespace Go.Proofs.YtapmgbnhobpahaaGreatDoor
open Go.RowKit

/-- What is drawn: a server with a version of each node, its numbers and its seats in memory of the call's own. -/
def SvOut (B R : Nat) (W : World) (e : Ending) (W' : World) : Prop :=
  ∃ (ep : Int) (ax : Option Addr) (cx : Nat) (ay : Option Addr) (ny cy : Nat) (vs : List Int) (ss : List (Int × Int)), e = .returned (svv ep (.slice ax 15 cx) (.slice ay ny cy)) ∧ vs.length = 15 ∧ ss.length = ny ∧ ny ≤ 9 ∧ Ints W.heap.size (.slice ax 15 cx) vs W' ∧ Seats W.heap.size (.slice ay ny cy) ss W' ∧ Q.Rd B R W' ∧ W.grownBy W' (some R)
theorem two_rowsIS {W : World} {Z A : Nat} {x y : Value} {xs : List Int} {ss : List (Int × Int)} (h0 : Ints Z x xs W) (h1 : Seats A y ss W) :
    (∀ s, s ∈ [fI Z x xs, fS A y ss] → s.on W) ∧ [fI Z x xs, fS A y ss].Pairwise fun r s => ∀ k, r.v.ownBlock = some k → s.v.ownBlock ≠ some k := by
  refine ⟨fun s hs => ?_, List.pairwise_cons.2 ⟨fun s hs => ?_, List.pairwise_cons.2 ⟨(fun _ h => (by cases h)), .nil⟩⟩⟩
  · simp only [List.mem_cons, List.not_mem_nil, or_false] at hs
    rcases hs with rfl | rfl
    · exact h0
    · exact h1
  · simp only [List.mem_cons, List.not_mem_nil, or_false] at hs
    subst hs
    exact rows_ne (r := fI Z x xs) (s := fS A y ss) h0 h1 (show (2 : TypeId) ≠ 114 by decide)
theorem new_two (w : World) (x y : Value) (xs : List Int) (ss : List (Int × Int)) : ∀ s, s ∈ [fI w.heap.size x xs, fS w.heap.size y ss] → w.heap.size ≤ s.B := fun s hs => by
  simp only [List.mem_cons, List.not_mem_nil, or_false] at hs
  rcases hs with rfl | rfl <;> exact Nat.le_refl _
/-- A server in its box, and where it is answered. -/
abbrev SvX (B R : Nat) (W : World) (P : Nat) (ep : Int) (ax : Option Addr) (cx : Nat) (ay : Option Addr) (ny cy bx by' : Nat) (vs : List Int) (ss : List (Int × Int)) (wr : World) : Prop :=
  RdX B R W [(P, svb ep (.slice ax 15 cx) (.slice ay ny cy)), (W.heap.size, svb 0 (.slice none 0 0) (.slice none 0 0))] [fI bx (.slice ax 15 cx) vs, fS by' (.slice ay ny cy) ss] wr

theorem row15 {B : Nat} {a : Option Addr} {c : Nat} {vs : List Int} {W : World} (h : Ints B (.slice a 15 c) vs W) (_ : vs.length = 15) : ∃ g, a = some ⟨g, 0, none⟩ := by
  rcases h.2 with ⟨e, _⟩ | ⟨g, cap, cur, e, _⟩
  · injection e with e1 e2 e3
    cases e2
  · injection e with e1
    exact ⟨g, e1⟩
theorem rowS {B : Nat} {a : Option Addr} {n c : Nat} {ss : List (Int × Int)} {W : World} (h : Seats B (.slice a n c) ss W) (hl : ss.length = n) (h0 : 0 < n) : ∃ g, a = some ⟨g, 0, none⟩ := by
  rcases h.2 with ⟨e, _⟩ | ⟨g, cap, cur, e, _⟩
  · injection e with e1 e2 e3
    omega
  · injection e with e1
    exact ⟨g, e1⟩
theorem nat15 {y : Int} (h0 : 0 ≤ y) (h1 : y < 15) : ∃ q : Nat, y = (q : Int) := ⟨y.toNat, by omega⟩
theorem ints15_at {B g c : Nat} {vs : List Int} {W : World} (h : Ints B (.slice (some ⟨g, 0, none⟩) 15 c) vs W) (hl : vs.length = 15) (q : Nat) (hq : q < 15) : (∃ x, W.cell? ⟨g, q, none⟩ = some x) ∧ W.frozen? ⟨g, q, none⟩ = false := by
  rcases h.2 with ⟨e, _⟩ | ⟨g', cap, cur, e, _, hg, h1, h3, h4, h5⟩
  · cases e
  · injection e with e1 e2 e3
    injection e1 with e1
    injection e1 with e1
    subst e1 e3
    have hs : q < cur.size := by omega
    exact ⟨⟨cur[q], by simp [World.cell?, hg, hs]⟩, by simp [World.frozen?, hg]⟩
theorem seat_at {B g n c : Nat} {ss : List (Int × Int)} {W : World} (h : Seats B (.slice (some ⟨g, 0, none⟩) n c) ss W) (hl : ss.length = n) (h0 : 0 < n) : (∃ x, W.cell? ⟨g, 1, none⟩ = some x) ∧ W.frozen? ⟨g, 1, none⟩ = false := by
  rcases h.2 with ⟨e, _⟩ | ⟨g', cap, cur, e, _, hg, h1, h3, h4, h5⟩
  · cases e
  · injection e with e1 e2 e3
    injection e1 with e1
    injection e1 with e1
    subst e1 e3
    have hs : 1 < cur.size := by omega
    exact ⟨⟨cur[1], by simp [World.cell?, hg, hs]⟩, by simp [World.frozen?, hg]⟩
theorem setVer {B R : Nat} {W : World} {P : Nat} {ep : Int} {g cx : Nat} {ay : Option Addr} {ny cy bx by' : Nat} {vs : List Int} {ss : List (Int × Int)} {wr : World} (h : SvX B R W P ep (some ⟨g, 0, none⟩) cx ay ny cy bx by' vs ss wr) (hl : vs.length = 15) (q : Nat) (hq : q < 15) (o : Int) :
    SvX B R W P ep (some ⟨g, 0, none⟩) cx ay ny cy bx by' (vs.set q o) ss (wr.setCell ⟨g, q, none⟩ (.int .i64 o)) := h.map fun _ H => by
  have hI : Ints bx (.slice (some ⟨g, 0, none⟩) 15 cx) vs wr := H.row (fI bx (.slice (some ⟨g, 0, none⟩) 15 cx) vs) (.head _)
  have st := Ints.stored (n := 15) hl hI q (by omega) o
  exact Hex.turn (pre := []) (r' := fI bx (.slice (some ⟨g, 0, none⟩) 15 cx) (vs.set q o)) H st.2 st.1 rfl ⟨fun s hs => by
    simp only [List.nil_append, List.mem_cons, List.not_mem_nil, or_false] at hs
    subst hs
    exact (by decide : (114 : TypeId) ≠ 2), fun p hp => by
    simp only [List.mem_cons, List.not_mem_nil, or_false] at hp
    rcases hp with rfl | rfl <;> simp [objType]⟩
theorem setLeaf {B R : Nat} {W : World} {P : Nat} {ep : Int} {ax : Option Addr} {g cx : Nat} {ny cy bx by' : Nat} {vs : List Int} {ss : List (Int × Int)} {wr : World} (h : SvX B R W P ep ax cx (some ⟨g, 0, none⟩) ny cy bx by' vs ss wr) (hl : ss.length = ny) (h0 : 0 < ny) (o : Int) :
    SvX B R W P ep ax cx (some ⟨g, 0, none⟩) ny cy bx by' vs (ss.set 0 ((kAt ss 0).1, o)) (wr.setCell ⟨g, 1, none⟩ (.int .i64 o)) := h.map fun _ H => by
  have hI : Seats by' (.slice (some ⟨g, 0, none⟩) ny cy) ss wr := H.row (fS by' (.slice (some ⟨g, 0, none⟩) ny cy) ss) (.tail _ (.head _))
  subst hl
  have st := World.ownsRow.stored hI 1 (.int .i64 o)
  have hcells : (kcells ss).set 1 (.int .i64 o) = kcells (ss.set 0 ((kAt ss 0).1, o)) := by
    cases ss with
    | nil => simp at h0
    | cons s t => simp [kcells, kAt]
  rw [hcells] at st
  have st1 : Seats by' (.slice (some ⟨g, 0, none⟩) ss.length cy) (ss.set 0 ((kAt ss 0).1, o)) (wr.setCell ⟨g, 1, none⟩ (.int .i64 o)) := by
    unfold Seats
    rw [List.length_set]
    exact st.1
  exact Hex.turn (pre := [fI bx (.slice ax 15 cx) vs]) (r' := fS by' (.slice (some ⟨g, 0, none⟩) ss.length cy) (ss.set 0 ((kAt ss 0).1, o))) H st.2 st1 rfl ⟨fun s hs => by
    simp only [List.append_nil, List.mem_cons, List.not_mem_nil, or_false] at hs
    subst hs
    exact (by decide : (2 : TypeId) ≠ 114), fun p hp => by
    simp only [List.mem_cons, List.not_mem_nil, or_false] at hp
    rcases hp with rfl | rfl <;> simp [objType]⟩

set_option maxRecDepth 100000 in
set_option maxHeartbeats 4000000 in
theorem drawServer_any (B R most : Nat) (W : World) (h : Q.Rd B R W) (hm : most ≤ 100) :
    Calls Tryz.prog 49 #[.pointer (some ⟨R, 0, none⟩), .int .i64 (most : Int)] W fun e W' => SvOut B R W e W' := by
  have H1 := hidS ((RdX.start h).alloc (svb 0 (.slice none 0 0) (.slice none 0 0)))
  clear h
  go_enter Tryz.func49, Tryz.ntmps49
  go_wp2_with fail
  generalize W.alloc (svb 0 (.slice none 0 0) (.slice none 0 0)) = w1 at *
  refine (specServerNew_any _).mono ?_
  rintro e w2 ⟨a2, c2, rfl, k2, b2⟩
  have H2 := hidS (show SvX B R W w2.heap.size 0 a2 c2 none 0 0 w1.heap.size w1.heap.size (List.replicate 15 1) [] (w2.alloc (svb 0 (.slice a2 15 c2) (.slice none 0 0))) from H1.out.map fun _ H => (H.adds b2 _ (two_rowsIS k2.1 k2.2.1).1 (new_two _ _ _ _ _) (two_rowsIS k2.1 k2.2.1).2).alloc _)
  clear H1 k2 b2
  go_wp2_with fail
  generalize w2.alloc (svb 0 (.slice a2 15 c2) (.slice none 0 0)) = w3 at *
  refine (Q.below_any B R _ _ H2.out.rd (by omega) (by omega)).mono ?_
  rintro e w4 ⟨n, hn0, hn1, rfl, hR4, hg4⟩
  have H4 := hidS (show SvX B R W w2.heap.size 0 a2 c2 none 0 0 w1.heap.size w1.heap.size (List.replicate 15 1) [] w4 from H2.out.read hR4 hg4)
  obtain ⟨m, rfl⟩ : ∃ m : Nat, n = (m : Int) := ⟨n.toNat, by omega⟩
  have HS0 : Hid (serverB 0 (List.replicate 15 1) [] = true) := by
    show serverB 0 (List.replicate 15 1) [] = true
    decide
  clear H2 hR4 hg4
  go_wp2
  go_loopw [6] (fun i wr => ∃ (j : Nat) (ep : Int) (ax : Option Addr) (cx : Nat) (ay : Option Addr) (ny cy bx by' : Nat) (vs : List Int) (ss : List (Int × Int)), i = .int .i64 (j : Int) ∧ j ≤ m ∧ ss.length = ny ∧ Hid (serverB ep vs ss = true) ∧ Hid (SvX B R W w2.heap.size ep ax cx ay ny cy bx by' vs ss wr)) (fun i _ => (intOf i).toNat)
  case atStart => exact ⟨m, 0, a2, c2, none, 0, 0, w1.heap.size, w1.heap.size, List.replicate 15 1, [], rfl, Nat.le_refl _, rfl, HS0, H4⟩
  case round =>
    obtain ⟨j, ep, ax, cx, ay, ny, cy, bx, by', vs, ss, rfl, hj, hny, HS, HX⟩ := hrel
    clear H4 HS0
    by_cases hj0 : j = 0
    · subst hj0
      have hv15 := serverB_len HS.out
      have h8 := serverB_few HS.out
      have HB := hidS (HX.out.at fun _ H => (show W.heap.size ≤ bx ∧ W.heap.size ≤ by' from ⟨H.fresh (fI bx (.slice ax 15 cx) vs) (.head _), H.fresh (fS by' (.slice ay ny cy) ss) (.tail _ (.head _))⟩))
      obtain ⟨g, rfl⟩ : ∃ g, ax = some ⟨g, 0, none⟩ := row15 (show Ints bx (.slice ax 15 cx) vs wr from HX.out.r0) hv15
      go_wp2_with fail
      refine (Q.below_any B R 40 _ HX.out.rd (by omega) (by omega)).mono ?_
      rintro e w7 ⟨n, hn0, hn1, rfl, hR7, hg7⟩
      have H7 := hidS (show SvX B R W w2.heap.size ep (some ⟨g, 0, none⟩) cx ay ny cy bx by' vs ss w7 from HX.out.read hR7 hg7)
      clear HX hR7 hg7
      obtain ⟨⟨o0, o1, o2⟩, e0, e1, e2⟩ := box3 H7.out.b0
      by_cases h37 : n = 37
      · have h37' : (n == 37) = true := by simpa using h37
        clear h37
        go_wp2_with fail
        refine (Q.off_any B R 0 1000000000 _ H7.out.rd (by omega) (by omega) (by omega)).mono ?_
        rintro e w8 ⟨o, _, rfl, hR8, hg8⟩
        have H8 := hidS (H7.out.read hR8 hg8)
        clear H7 hR8 hg8 o0 o1 o2 e0 e1 e2
        obtain ⟨⟨o0, o1, o2⟩, e0, e1, e2⟩ := box3 H8.out.b0
        have H9 := hidS (H8.out.map fun _ H => H.s300 (.int .i64 o))
        clear H8
        go_upto_region 14 with fail
        generalize w8.setCell ⟨w2.heap.size, 0, none⟩ (.int .i64 o) = w9 at *
        clear o0 o1 o2 e0 e1 e2
        obtain ⟨⟨o0, o1, o2⟩, e0, e1, e2⟩ := box3 H9.out.b0
        obtain ⟨⟨t0, t1, t2⟩, u0, u1, u2⟩ := box3 H9.out.b1
        have HE := hidS (H9.out.map fun _ H => ((H.s310 (.int .i64 o)).s311 (.slice (some ⟨g, 0, none⟩) 15 cx)).s312 (.slice ay ny cy))
        clear H9
        go_wp2
        have HE' := HE.out
        generalize ((w9.setCell ⟨W.heap.size, 0, none⟩ (.int .i64 o)).setCell ⟨W.heap.size, 1, none⟩ (.slice (some ⟨g, 0, none⟩) 15 cx)).setCell ⟨W.heap.size, 2, none⟩ (.slice ay ny cy) = WF at HE' ⊢
        obtain ⟨⟨z0, z1, z2⟩, _, _, _⟩ := box3 HE'.b1
        have kI : Ints bx (.slice (some ⟨g, 0, none⟩) 15 cx) vs WF := HE'.r0
        have kS : Seats by' (.slice ay ny cy) ss WF := HE'.r1
        exact bodyPost_ret (v := svv o (.slice (some ⟨g, 0, none⟩) 15 cx) (.slice ay ny cy)) (by simp [results, Tryz.results49, go_sem, z0, z1, z2]) rfl ⟨o, _, _, _, _, _, vs, ss, rfl, hv15, hny, by omega, kI.mono HB.out.1, kS.mono HB.out.2, HE'.rd, HE'.grown⟩

      · have h37' : (n == 37) = false := by simpa using h37
        clear h37
        by_cases h38 : n = 38
        · have h38' : (n == 38) = true := by simpa using h38
          clear h38
          have H7d := hidS (show SvX B R W w2.heap.size ep (some ⟨g, 0, none⟩) cx ay ny cy bx by' vs ss w7.drew from H7.out.drew)
          go_upto_region 10 with fail
          go_region_with (first
            | (go_at_call 40; have hrd := Hoff.out.rd; refine (Q.below_any B R 15 _ hrd (by omega) (by omega)).mono ?_; rintro e w9 ⟨y, hy0, hy1, rfl, hR9, hg9⟩; have H9 := hidS (show SvX B R W w2.heap.size ep (some ⟨g, 0, none⟩) cx ay ny cy bx by' vs ss w9 from Hoff.out.read hR9 hg9); obtain ⟨q, rfl⟩ := nat15 hy0 hy1; obtain ⟨⟨x1, s1⟩, s2⟩ := ints15_at (show Ints bx (.slice (some ⟨g, 0, none⟩) 15 cx) vs w9 from H9.out.r0) hv15 q (by omega); clear o0 o1 o2 e0 e1 e2; obtain ⟨⟨o0, o1, o2⟩, e0, e1, e2⟩ := box3 H9.out.b0)
            | (go_at_call 40; refine (Q.below_any B R 15 _ H7d.out.rd (by omega) (by omega)).mono ?_; rintro e w8 ⟨y, hy0, hy1, rfl, hR8, hg8⟩; have Hbel := hidS (show SvX B R W w2.heap.size ep (some ⟨g, 0, none⟩) cx ay ny cy bx by' vs ss w8 from H7d.out.read hR8 hg8); obtain ⟨q, rfl⟩ := nat15 hy0 hy1; clear o0 o1 o2 e0 e1 e2; obtain ⟨⟨o0, o1, o2⟩, e0, e1, e2⟩ := box3 Hbel.out.b0)
            | (go_at_call 21; have hrd := Hbel.out.rd; refine (Q.off_any B R 1 1000000000 _ hrd (by omega) (by omega) (by omega)).mono ?_; rintro e w9 ⟨o, _, rfl, hR9, hg9⟩; have H9 := hidS (show SvX B R W w2.heap.size ep (some ⟨g, 0, none⟩) cx ay ny cy bx by' vs ss w9 from Hbel.out.read hR9 hg9); obtain ⟨⟨x1, s1⟩, s2⟩ := ints15_at (show Ints bx (.slice (some ⟨g, 0, none⟩) 15 cx) vs w9 from H9.out.r0) hv15 q (by omega); clear o0 o1 o2 e0 e1 e2; obtain ⟨⟨o0, o1, o2⟩, e0, e1, e2⟩ := box3 H9.out.b0)
            | (go_at_call 21; refine (Q.off_any B R 1 1000000000 _ H7d.out.rd (by omega) (by omega) (by omega)).mono ?_; rintro e w8 ⟨o, _, rfl, hR8, hg8⟩; have Hoff := hidS (show SvX B R W w2.heap.size ep (some ⟨g, 0, none⟩) cx ay ny cy bx by' vs ss w8 from H7d.out.read hR8 hg8); clear o0 o1 o2 e0 e1 e2; obtain ⟨⟨o0, o1, o2⟩, e0, e1, e2⟩ := box3 Hoff.out.b0))
          all_goals
            have HT := hidS (setVer H9.out hv15 q (by omega) o)
            clear H9 H7 H7d o0 o1 o2 e0 e1 e2
            generalize w9.setCell ⟨g, q, none⟩ (.int .i64 o) = wT at *
            obtain ⟨⟨o0, o1, o2⟩, e0, e1, e2⟩ := box3 HT.out.b0
            obtain ⟨⟨t0, t1, t2⟩, u0, u1, u2⟩ := box3 HT.out.b1
            have HE := hidS (HT.out.map fun _ H => ((H.s310 (.int .i64 ep)).s311 (.slice (some ⟨g, 0, none⟩) 15 cx)).s312 (.slice ay ny cy))
            clear HT
            go_wp2
            have HE' := HE.out
            generalize ((wT.setCell ⟨W.heap.size, 0, none⟩ (.int .i64 ep)).setCell ⟨W.heap.size, 1, none⟩ (.slice (some ⟨g, 0, none⟩) 15 cx)).setCell ⟨W.heap.size, 2, none⟩ (.slice ay ny cy) = WF at HE' ⊢
            obtain ⟨⟨z0, z1, z2⟩, _, _, _⟩ := box3 HE'.b1
            have kI : Ints bx (.slice (some ⟨g, 0, none⟩) 15 cx) (vs.set q o) WF := HE'.r0
            have kS : Seats by' (.slice ay ny cy) ss WF := HE'.r1
            exact bodyPost_ret (v := svv ep (.slice (some ⟨g, 0, none⟩) 15 cx) (.slice ay ny cy)) (by simp [results, Tryz.results49, go_sem, z0, z1, z2]) rfl ⟨ep, _, _, _, _, _, (vs.set q o), ss, rfl, by simp [hv15], hny, by omega, kI.mono HB.out.1, kS.mono HB.out.2, HE'.rd, HE'.grown⟩

        · have h38' : (n == 38) = false := by simpa using h38
          clear h38
          by_cases h39 : n = 39
          · have h39' : (n == 39) = true := by simpa using h39
            clear h39
            by_cases hs0 : ny = 0
            · subst hs0
              obtain ⟨⟨o0, o1, o2⟩, e0, e1, e2⟩ := box3 H7.out.b0
              obtain ⟨⟨t0, t1, t2⟩, u0, u1, u2⟩ := box3 H7.out.b1
              have HE := hidS (H7.out.map fun _ H => ((H.s310 (.int .i64 ep)).s311 (.slice (some ⟨g, 0, none⟩) 15 cx)).s312 (.slice ay 0 cy))
              clear H7
              go_wp2
              have HE' := HE.out
              generalize ((w7.setCell ⟨W.heap.size, 0, none⟩ (.int .i64 ep)).setCell ⟨W.heap.size, 1, none⟩ (.slice (some ⟨g, 0, none⟩) 15 cx)).setCell ⟨W.heap.size, 2, none⟩ (.slice ay 0 cy) = WF at HE' ⊢
              obtain ⟨⟨z0, z1, z2⟩, _, _, _⟩ := box3 HE'.b1
              have kI : Ints bx (.slice (some ⟨g, 0, none⟩) 15 cx) vs WF := HE'.r0
              have kS : Seats by' (.slice ay 0 cy) ss WF := HE'.r1
              exact bodyPost_ret (v := svv ep (.slice (some ⟨g, 0, none⟩) 15 cx) (.slice ay 0 cy)) (by simp [results, Tryz.results49, go_sem, z0, z1, z2]) rfl ⟨ep, _, _, _, _, _, vs, ss, rfl, hv15, hny, by omega, kI.mono HB.out.1, kS.mono HB.out.2, HE'.rd, HE'.grown⟩

            · have hs0' : 0 < ny := by omega
              obtain ⟨gs, rfl⟩ : ∃ gs, ay = some ⟨gs, 0, none⟩ := rowS (show Seats by' (.slice ay ny cy) ss w7 from H7.out.r1) hny hs0'
              have H7d := hidS (show SvX B R W w2.heap.size ep (some ⟨g, 0, none⟩) cx (some ⟨gs, 0, none⟩) ny cy bx by' vs ss w7.drew from H7.out.drew)
              go_upto_region 13 with fail
              go_region_with (go_at_call 21; refine (Q.off_any B R 8 15 _ H7d.out.rd (by omega) (by omega) (by omega)).mono ?_; rintro e w9 ⟨o, _, rfl, hR9, hg9⟩; have H9 := hidS (show SvX B R W w2.heap.size ep (some ⟨g, 0, none⟩) cx (some ⟨gs, 0, none⟩) ny cy bx by' vs ss w9 from H7d.out.read hR9 hg9); obtain ⟨⟨x1, s1⟩, s2⟩ := seat_at (show Seats by' (.slice (some ⟨gs, 0, none⟩) ny cy) ss w9 from H9.out.r1) hny hs0'; clear o0 o1 o2 e0 e1 e2; obtain ⟨⟨o0, o1, o2⟩, e0, e1, e2⟩ := box3 H9.out.b0)
              all_goals
                have HT := hidS (setLeaf H9.out hny hs0' o)
                clear H9 H7 H7d o0 o1 o2 e0 e1 e2
                generalize w9.setCell ⟨gs, 1, none⟩ (.int .i64 o) = wT at *
                obtain ⟨⟨o0, o1, o2⟩, e0, e1, e2⟩ := box3 HT.out.b0
                obtain ⟨⟨t0, t1, t2⟩, u0, u1, u2⟩ := box3 HT.out.b1
                have HE := hidS (HT.out.map fun _ H => ((H.s310 (.int .i64 ep)).s311 (.slice (some ⟨g, 0, none⟩) 15 cx)).s312 (.slice (some ⟨gs, 0, none⟩) ny cy))
                clear HT
                go_wp2
                have HE' := HE.out
                generalize ((wT.setCell ⟨W.heap.size, 0, none⟩ (.int .i64 ep)).setCell ⟨W.heap.size, 1, none⟩ (.slice (some ⟨g, 0, none⟩) 15 cx)).setCell ⟨W.heap.size, 2, none⟩ (.slice (some ⟨gs, 0, none⟩) ny cy) = WF at HE' ⊢
                obtain ⟨⟨z0, z1, z2⟩, _, _, _⟩ := box3 HE'.b1
                have kI : Ints bx (.slice (some ⟨g, 0, none⟩) 15 cx) vs WF := HE'.r0
                have kS : Seats by' (.slice (some ⟨gs, 0, none⟩) ny cy) (ss.set 0 ((kAt ss 0).1, o)) WF := HE'.r1
                exact bodyPost_ret (v := svv ep (.slice (some ⟨g, 0, none⟩) 15 cx) (.slice (some ⟨gs, 0, none⟩) ny cy)) (by simp [results, Tryz.results49, go_sem, z0, z1, z2]) rfl ⟨ep, _, _, _, _, _, vs, (ss.set 0 ((kAt ss 0).1, o)), rfl, hv15, by simp [hny], by omega, kI.mono HB.out.1, kS.mono HB.out.2, HE'.rd, HE'.grown⟩

          · have h39' : (n == 39) = false := by simpa using h39
            clear h39
            obtain ⟨⟨o0, o1, o2⟩, e0, e1, e2⟩ := box3 H7.out.b0
            obtain ⟨⟨t0, t1, t2⟩, u0, u1, u2⟩ := box3 H7.out.b1
            have HE := hidS (H7.out.map fun _ H => ((H.s310 (.int .i64 ep)).s311 (.slice (some ⟨g, 0, none⟩) 15 cx)).s312 (.slice ay ny cy))
            clear H7
            go_wp2
            have HE' := HE.out
            generalize ((w7.setCell ⟨W.heap.size, 0, none⟩ (.int .i64 ep)).setCell ⟨W.heap.size, 1, none⟩ (.slice (some ⟨g, 0, none⟩) 15 cx)).setCell ⟨W.heap.size, 2, none⟩ (.slice ay ny cy) = WF at HE' ⊢
            obtain ⟨⟨z0, z1, z2⟩, _, _, _⟩ := box3 HE'.b1
            have kI : Ints bx (.slice (some ⟨g, 0, none⟩) 15 cx) vs WF := HE'.r0
            have kS : Seats by' (.slice ay ny cy) ss WF := HE'.r1
            exact bodyPost_ret (v := svv ep (.slice (some ⟨g, 0, none⟩) 15 cx) (.slice ay ny cy)) (by simp [results, Tryz.results49, go_sem, z0, z1, z2]) rfl ⟨ep, _, _, _, _, _, vs, ss, rfl, hv15, hny, by omega, kI.mono HB.out.1, kS.mono HB.out.2, HE'.rd, HE'.grown⟩
    · have hj' : 0 < j := by omega
      obtain ⟨⟨o0, o1, o2⟩, e0, e1, e2⟩ := box3 HX.out.b0
      have HXd := hidS (show SvX B R W w2.heap.size ep ax cx ay ny cy bx by' vs ss wr.drew from HX.out.drew)
      go_wp2
      go_region_with (first
        | (go_at_call 19; refine (drawOp_any B R _ HXd.out.rd).mono ?_; rintro e w5 ⟨k, mm, rfl, hR5, hg5⟩; have H5 := hidS (show SvX B R W w2.heap.size ep ax cx ay ny cy bx by' vs ss w5 from HXd.out.read hR5 hg5); obtain ⟨⟨o0, o1, o2⟩, e0, e1, e2⟩ := box3 H5.out.b0)
        | (go_at_call 50; refine (specDone_any ep k mm (show Ints bx (.slice ax 15 cx) vs w5 from H5.out.r0) (show Seats by' (.slice ay ny cy) ss w5 from H5.out.r1)).mono ?_; rintro e w6 ⟨ep', x', y', vs', ss', re, v', ws', u', ks', code, rfl, l1, i3, s3, l2, v3, l3, u3, l4, b3, hok⟩; have HS6 := hidS (hok HS.out); obtain ⟨xa, xc, hv1, _, _⟩ := i3.row; obtain ⟨ya, yc, hv2, _, _⟩ := s3.row; rw [serverB_len HS6.out] at hv1; subst hv1 hv2; have H6 := hidS (H5.out.map fun _ H => ((H.adds b3 [fI w5.heap.size (.slice xa 15 xc) vs', fS w5.heap.size (.slice ya ss'.length yc) ss'] (two_rowsIS i3 s3).1 (new_two _ _ _ _ _) (two_rowsIS i3 s3).2).sub (List.Sublist.refl _) (List.sublist_append_left _ _))); clear i3 s3 v3 u3 b3 hok l1 l2 l3 l4; obtain ⟨⟨o0, o1, o2⟩, e0, e1, e2⟩ := box3 H6.out.b0))
      all_goals
        have HF := hidS (show SvX B R W w2.heap.size ep' xa xc ya ss'.length yc w5.heap.size w5.heap.size vs' ss' _ from H6.out.map fun _ H => ((H.s300 (.int .i64 ep')).s301 (.slice xa 15 xc)).s302 (.slice ya ss'.length yc))
        clear H6 H5 HXd HX o0 o1 o2 e0 e1 e2
        go_wp2
        go_roundw
        case rel => exact ⟨j - 1, ep', xa, xc, ya, ss'.length, yc, w5.heap.size, w5.heap.size, vs', ss', by go_num, by omega, rfl, HS6, HF⟩
        case measure => simp [intOf]; omega
end Go.Proofs.YtapmgbnhobpahaaGreatDoor
/- The code of a drawn law: bytes, and the test of its length. -/
namespace Go.Proofs.YtapmgbnhobpahaaGreatDoor
open Go.RowKit
namespace Q

/-- The bytes that are drawn from: they lie below B. -/
def Bytes (B : Nat) (a : Option Addr) (len : Nat) (W : World) : Prop :=
  len ≤ maxLen ∧ ∀ i, i < len → ∃ b off x, a = some ⟨b, off, none⟩ ∧ b < B ∧ W.cell? ⟨b, off + i, none⟩ = some (.int .u8 x) ∧ 0 ≤ x ∧ x ≤ 255
theorem Bytes.kept {B len : Nat} {a : Option Addr} {W W' : World} (h : Bytes B a len W) (hb : Below B W W') : Bytes B a len W' :=
  ⟨h.1, fun i hi => by
    obtain ⟨b, off, x, e, hB, hc, hx⟩ := h.2 i hi
    exact ⟨b, off, x, e, hB, (hb.cell (p := ⟨b, off + i, none⟩) hB).trans hc, hx⟩⟩
theorem Bytes.rd {B len : Nat} {a : Option Addr} {W : World} (h : Bytes B a len W) (hB : B ≤ W.heap.size) (cap : Nat) : Rd B W.heap.size (W.alloc (.cells #[.slice a len cap, .int .i64 0] 68)) := by
  refine ⟨a, len, cap, 0, Nat.zero_le _, h.1, hB, blk_new _ _, fun i hi => ?_⟩
  obtain ⟨b, off, x, e, hb, hc, hx⟩ := h.2 i hi
  exact ⟨b, off, x, e, hb, (World.grownBy_alloc W _ none).cell hc (by simp), hx⟩

theorem big_any (a : Option Addr) (len cap : Nat) (W : World) :
    Calls Tryz.prog 4 #[.slice a len cap] W fun e W' => e = .returned (.bool (decide ((1048576 : Int) < (len : Int)))) ∧ W' = W := by
  go_enter Tryz.func4, Tryz.ntmps4
  go_wp2
  go_ret
  exact ⟨by simp, rfl⟩

end Q
end Go.Proofs.YtapmgbnhobpahaaGreatDoor
