/- What the drawn laws of servers draw: a server. -/
import Derived.Test.YtjilbfohfgalkaaPart6
import Derived.Test.YtjilbfohfgalkaaPart3
import Derived.Test.YtjilbfohfgalkaaPart0
import Derived.Test.YtjilbfohfgalkaaPart2
namespace Go.Proofs.Ytjilbfohfgalkaa
open Go.RowKit

/-- What is drawn: a server with a version of each node, its numbers and its seats in memory of the call's own. -/
def SvOut (B R : Nat) (W : World) (e : Ending) (W' : World) : Prop :=
  ∃ (ep : Int) (ax : Option Addr) (cx : Nat) (ay : Option Addr) (ny cy : Nat) (vs : List Int) (ss : List (Int × Int)), e = .returned (svv ep (.slice ax 15 cx) (.slice ay ny cy)) ∧ vs.length = 15 ∧ ss.length = ny ∧ ny ≤ 9 ∧ Ints W.heap.size (.slice ax 15 cx) vs W' ∧ Seats W.heap.size (.slice ay ny cy) ss W' ∧ Q.Rd B R W' ∧ W.grownBy W' (some R)
theorem two_rowsIS {W : World} {Z A : Nat} {x y : Value} {xs : List Int} {ss : List (Int × Int)} (h0 : Ints Z x xs W) (h1 : Seats A y ss W) :
    (∀ s, s ∈ [fI Z x xs, fS A y ss] → s.on W) ∧ [fI Z x xs, fS A y ss].Pairwise fun r s => ∀ k, r.v.ownBlock = some k → s.v.ownBlock ≠ some k := by
  refine ⟨fun s hs => ?_, List.pairwise_cons.2 ⟨fun s hs => ?_, List.pairwise_cons.2 ⟨(fun _ h => (by cases h)), .nil⟩⟩⟩
  · simp only [List.mem_cons, List.not_mem_nil, or_false] at hs
    rcases hs with rfl | rfl
    · exact h0
    · exact h1
  · simp only [List.mem_cons, List.not_mem_nil, or_false] at hs
    subst hs
    exact rows_ne (r := fI Z x xs) (s := fS A y ss) h0 h1 (show (2 : TypeId) ≠ 90 by decide)
theorem new_two (w : World) (x y : Value) (xs : List Int) (ss : List (Int × Int)) : ∀ s, s ∈ [fI w.heap.size x xs, fS w.heap.size y ss] → w.heap.size ≤ s.B := fun s hs => by
  simp only [List.mem_cons, List.not_mem_nil, or_false] at hs
  rcases hs with rfl | rfl <;> exact Nat.le_refl _
/-- A server in its box, and where it is answered. -/
abbrev SvX (B R : Nat) (W : World) (P : Nat) (ep : Int) (ax : Option Addr) (cx : Nat) (ay : Option Addr) (ny cy bx by' : Nat) (vs : List Int) (ss : List (Int × Int)) (wr : World) : Prop :=
  RdX B R W [(P, svb ep (.slice ax 15 cx) (.slice ay ny cy)), (W.heap.size, svb 0 (.slice none 0 0) (.slice none 0 0))] [fI bx (.slice ax 15 cx) vs, fS by' (.slice ay ny cy) ss] wr

theorem row15 {B : Nat} {a : Option Addr} {c : Nat} {vs : List Int} {W : World} (h : Ints B (.slice a 15 c) vs W) (_ : vs.length = 15) : ∃ g, a = some ⟨g, 0, none⟩ := by
  rcases h.2 with ⟨e, _⟩ | ⟨g, cap, cur, e, _⟩
  · injection e with e1 e2 e3
    cases e2
  · injection e with e1
    exact ⟨g, e1⟩
theorem rowS {B : Nat} {a : Option Addr} {n c : Nat} {ss : List (Int × Int)} {W : World} (h : Seats B (.slice a n c) ss W) (hl : ss.length = n) (h0 : 0 < n) : ∃ g, a = some ⟨g, 0, none⟩ := by
  rcases h.2 with ⟨e, _⟩ | ⟨g, cap, cur, e, _⟩
  · injection e with e1 e2 e3
    omega
  · injection e with e1
    exact ⟨g, e1⟩
theorem nat15 {y : Int} (h0 : 0 ≤ y) (h1 : y < 15) : ∃ q : Nat, y = (q : Int) := ⟨y.toNat, by omega⟩
theorem ints15_at {B g c : Nat} {vs : List Int} {W : World} (h : Ints B (.slice (some ⟨g, 0, none⟩) 15 c) vs W) (hl : vs.length = 15) (q : Nat) (hq : q < 15) : (∃ x, W.cell? ⟨g, q, none⟩ = some x) ∧ W.frozen? ⟨g, q, none⟩ = false := by
  rcases h.2 with ⟨e, _⟩ | ⟨g', cap, cur, e, _, hg, h1, h3, h4, h5⟩
  · cases e
  · injection e with e1 e2 e3
    injection e1 with e1
    injection e1 with e1
    subst e1 e3
    have hs : q < cur.size := by omega
    exact ⟨⟨cur[q], by simp [World.cell?, hg, hs]⟩, by simp [World.frozen?, hg]⟩
theorem seat_at {B g n c : Nat} {ss : List (Int × Int)} {W : World} (h : Seats B (.slice (some ⟨g, 0, none⟩) n c) ss W) (hl : ss.length = n) (h0 : 0 < n) : (∃ x, W.cell? ⟨g, 1, none⟩ = some x) ∧ W.frozen? ⟨g, 1, none⟩ = false := by
  rcases h.2 with ⟨e, _⟩ | ⟨g', cap, cur, e, _, hg, h1, h3, h4, h5⟩
  · cases e
  · injection e with e1 e2 e3
    injection e1 with e1
    injection e1 with e1
    subst e1 e3
    have hs : 1 < cur.size := by omega
    exact ⟨⟨cur[1], by simp [World.cell?, hg, hs]⟩, by simp [World.frozen?, hg]⟩
theorem setVer {B R : Nat} {W : World} {P : Nat} {ep : Int} {g cx : Nat} {ay : Option Addr} {ny cy bx by' : Nat} {vs : List Int} {ss : List (Int × Int)} {wr : World} (h : SvX B R W P ep (some ⟨g, 0, none⟩) cx ay ny cy bx by' vs ss wr) (hl : vs.length = 15) (q : Nat) (hq : q < 15) (o : Int) :
    SvX B R W P ep (some ⟨g, 0, none⟩) cx ay ny cy bx by' (vs.set q o) ss (wr.setCell ⟨g, q, none⟩ (.int .i64 o)) := h.map fun _ H => by
  have hI : Ints bx (.slice (some ⟨g, 0, none⟩) 15 cx) vs wr := H.row (fI bx (.slice (some ⟨g, 0, none⟩) 15 cx) vs) (.head _)
  have st := Ints.stored (n := 15) hl hI q (by omega) o
  exact Hex.turn (pre := []) (r' := fI bx (.slice (some ⟨g, 0, none⟩) 15 cx) (vs.set q o)) H st.2 st.1 rfl ⟨fun s hs => by
    simp only [List.nil_append, List.mem_cons, List.not_mem_nil, or_false] at hs
    subst hs
    exact (by decide : (90 : TypeId) ≠ 2), fun p hp => by
    simp only [List.mem_cons, List.not_mem_nil, or_false] at hp
    rcases hp with rfl | rfl <;> simp [objType]⟩
theorem setLeaf {B R : Nat} {W : World} {P : Nat} {ep : Int} {ax : Option Addr} {g cx : Nat} {ny cy bx by' : Nat} {vs : List Int} {ss : List (Int × Int)} {wr : World} (h : SvX B R W P ep ax cx (some ⟨g, 0, none⟩) ny cy bx by' vs ss wr) (hl : ss.length = ny) (h0 : 0 < ny) (o : Int) :
    SvX B R W P ep ax cx (some ⟨g, 0, none⟩) ny cy bx by' vs (ss.set 0 ((kAt ss 0).1, o)) (wr.setCell ⟨g, 1, none⟩ (.int .i64 o)) := h.map fun _ H => by
  have hI : Seats by' (.slice (some ⟨g, 0, none⟩) ny cy) ss wr := H.row (fS by' (.slice (some ⟨g, 0, none⟩) ny cy) ss) (.tail _ (.head _))
  subst hl
  have st := World.ownsRow.stored hI 1 (.int .i64 o)
  have hcells : (kcells ss).set 1 (.int .i64 o) = kcells (ss.set 0 ((kAt ss 0).1, o)) := by
    cases ss with
    | nil => simp at h0
    | cons s t => simp [kcells, kAt]
  rw [hcells] at st
  have st1 : Seats by' (.slice (some ⟨g, 0, none⟩) ss.length cy) (ss.set 0 ((kAt ss 0).1, o)) (wr.setCell ⟨g, 1, none⟩ (.int .i64 o)) := by
    unfold Seats
    rw [List.length_set]
    exact st.1
  exact Hex.turn (pre := [fI bx (.slice ax 15 cx) vs]) (r' := fS by' (.slice (some ⟨g, 0, none⟩) ss.length cy) (ss.set 0 ((kAt ss 0).1, o))) H st.2 st1 rfl ⟨fun s hs => by
    simp only [List.append_nil, List.mem_cons, List.not_mem_nil, or_false] at hs
    subst hs
    exact (by decide : (2 : TypeId) ≠ 90), fun p hp => by
    simp only [List.mem_cons, List.not_mem_nil, or_false] at hp
    rcases hp with rfl | rfl <;> simp [objType]⟩

set_option maxRecDepth 100000 in
set_option maxHeartbeats 4000000 in
theorem drawServer_any (B R most : Nat) (W : World) (h : Q.Rd B R W) (hm : most ≤ 100) :
    Calls Try.prog 39 #[.pointer (some ⟨R, 0, none⟩), .int .i64 (most : Int)] W fun e W' => SvOut B R W e W' := by
  have H1 := hidS ((RdX.start h).alloc (svb 0 (.slice none 0 0) (.slice none 0 0)))
  clear h
  go_enter Try.func39, Try.ntmps39
  go_wp2_with fail
  generalize W.alloc (svb 0 (.slice none 0 0) (.slice none 0 0)) = w1 at *
  refine (specServerNew_any _).mono ?_
  rintro e w2 ⟨a2, c2, rfl, k2, b2⟩
  have H2 := hidS (show SvX B R W w2.heap.size 0 a2 c2 none 0 0 w1.heap.size w1.heap.size (List.replicate 15 1) [] (w2.alloc (svb 0 (.slice a2 15 c2) (.slice none 0 0))) from H1.out.map fun _ H => (H.adds b2 _ (two_rowsIS k2.1 k2.2.1).1 (new_two _ _ _ _ _) (two_rowsIS k2.1 k2.2.1).2).alloc _)
  clear H1 k2 b2
  go_wp2_with fail
  generalize w2.alloc (svb 0 (.slice a2 15 c2) (.slice none 0 0)) = w3 at *
  refine (Q.below_any B R _ _ H2.out.rd (by omega) (by omega)).mono ?_
  rintro e w4 ⟨n, hn0, hn1, rfl, hR4, hg4⟩
  have H4 := hidS (show SvX B R W w2.heap.size 0 a2 c2 none 0 0 w1.heap.size w1.heap.size (List.replicate 15 1) [] w4 from H2.out.read hR4 hg4)
  obtain ⟨m, rfl⟩ : ∃ m : Nat, n = (m : Int) := ⟨n.toNat, by omega⟩
  have HS0 : Hid (serverB 0 (List.replicate 15 1) [] = true) := by
    show serverB 0 (List.replicate 15 1) [] = true
    decide
  clear H2 hR4 hg4
  go_wp2
  go_loopw [6] (fun i wr => ∃ (j : Nat) (ep : Int) (ax : Option Addr) (cx : Nat) (ay : Option Addr) (ny cy bx by' : Nat) (vs : List Int) (ss : List (Int × Int)), i = .int .i64 (j : Int) ∧ j ≤ m ∧ ss.length = ny ∧ Hid (serverB ep vs ss = true) ∧ Hid (SvX B R W w2.heap.size ep ax cx ay ny cy bx by' vs ss wr)) (fun i _ => (intOf i).toNat)
  case atStart => exact ⟨m, 0, a2, c2, none, 0, 0, w1.heap.size, w1.heap.size, List.replicate 15 1, [], rfl, Nat.le_refl _, rfl, HS0, H4⟩
  case round =>
    obtain ⟨j, ep, ax, cx, ay, ny, cy, bx, by', vs, ss, rfl, hj, hny, HS, HX⟩ := hrel
    clear H4 HS0
    by_cases hj0 : j = 0
    · subst hj0
      have hv15 := serverB_len HS.out
      have h8 := serverB_few HS.out
      have HB := hidS (HX.out.at fun _ H => (show W.heap.size ≤ bx ∧ W.heap.size ≤ by' from ⟨H.fresh (fI bx (.slice ax 15 cx) vs) (.head _), H.fresh (fS by' (.slice ay ny cy) ss) (.tail _ (.head _))⟩))
      obtain ⟨g, rfl⟩ : ∃ g, ax = some ⟨g, 0, none⟩ := row15 (show Ints bx (.slice ax 15 cx) vs wr from HX.out.r0) hv15
      go_wp2_with fail
      refine (Q.below_any B R 40 _ HX.out.rd (by omega) (by omega)).mono ?_
      rintro e w7 ⟨n, hn0, hn1, rfl, hR7, hg7⟩
      have H7 := hidS (show SvX B R W w2.heap.size ep (some ⟨g, 0, none⟩) cx ay ny cy bx by' vs ss w7 from HX.out.read hR7 hg7)
      clear HX hR7 hg7
      obtain ⟨⟨o0, o1, o2⟩, e0, e1, e2⟩ := box3 H7.out.b0
      by_cases h37 : n = 37
      · have h37' : (n == 37) = true := by simpa using h37
        clear h37
        go_wp2_with fail
        refine (Q.off_any B R 0 1000000000 _ H7.out.rd (by omega) (by omega) (by omega)).mono ?_
        rintro e w8 ⟨o, _, rfl, hR8, hg8⟩
        have H8 := hidS (H7.out.read hR8 hg8)
        clear H7 hR8 hg8 o0 o1 o2 e0 e1 e2
        obtain ⟨⟨o0, o1, o2⟩, e0, e1, e2⟩ := box3 H8.out.b0
        have H9 := hidS (H8.out.map fun _ H => H.s300 (.int .i64 o))
        clear H8
        go_upto_region 14 with fail
        generalize w8.setCell ⟨w2.heap.size, 0, none⟩ (.int .i64 o) = w9 at *
        clear o0 o1 o2 e0 e1 e2
        obtain ⟨⟨o0, o1, o2⟩, e0, e1, e2⟩ := box3 H9.out.b0
        obtain ⟨⟨t0, t1, t2⟩, u0, u1, u2⟩ := box3 H9.out.b1
        have HE := hidS (H9.out.map fun _ H => ((H.s310 (.int .i64 o)).s311 (.slice (some ⟨g, 0, none⟩) 15 cx)).s312 (.slice ay ny cy))
        clear H9
        go_wp2
        have HE' := HE.out
        generalize ((w9.setCell ⟨W.heap.size, 0, none⟩ (.int .i64 o)).setCell ⟨W.heap.size, 1, none⟩ (.slice (some ⟨g, 0, none⟩) 15 cx)).setCell ⟨W.heap.size, 2, none⟩ (.slice ay ny cy) = WF at HE' ⊢
        obtain ⟨⟨z0, z1, z2⟩, _, _, _⟩ := box3 HE'.b1
        have kI : Ints bx (.slice (some ⟨g, 0, none⟩) 15 cx) vs WF := HE'.r0
        have kS : Seats by' (.slice ay ny cy) ss WF := HE'.r1
        exact bodyPost_ret (v := svv o (.slice (some ⟨g, 0, none⟩) 15 cx) (.slice ay ny cy)) (by simp [results, Try.results39, go_sem, z0, z1, z2]) rfl ⟨o, _, _, _, _, _, vs, ss, rfl, hv15, hny, by omega, kI.mono HB.out.1, kS.mono HB.out.2, HE'.rd, HE'.grown⟩

      · have h37' : (n == 37) = false := by simpa using h37
        clear h37
        by_cases h38 : n = 38
        · have h38' : (n == 38) = true := by simpa using h38
          clear h38
          have H7d := hidS (show SvX B R W w2.heap.size ep (some ⟨g, 0, none⟩) cx ay ny cy bx by' vs ss w7.drew from H7.out.drew)
          go_upto_region 10 with fail
          go_region_with (first
            | (go_at_call 40; have hrd := Hoff.out.rd; refine (Q.below_any B R 15 _ hrd (by omega) (by omega)).mono ?_; rintro e w9 ⟨y, hy0, hy1, rfl, hR9, hg9⟩; have H9 := hidS (show SvX B R W w2.heap.size ep (some ⟨g, 0, none⟩) cx ay ny cy bx by' vs ss w9 from Hoff.out.read hR9 hg9); obtain ⟨q, rfl⟩ := nat15 hy0 hy1; obtain ⟨⟨x1, s1⟩, s2⟩ := ints15_at (show Ints bx (.slice (some ⟨g, 0, none⟩) 15 cx) vs w9 from H9.out.r0) hv15 q (by omega); clear o0 o1 o2 e0 e1 e2; obtain ⟨⟨o0, o1, o2⟩, e0, e1, e2⟩ := box3 H9.out.b0)
            | (go_at_call 40; refine (Q.below_any B R 15 _ H7d.out.rd (by omega) (by omega)).mono ?_; rintro e w8 ⟨y, hy0, hy1, rfl, hR8, hg8⟩; have Hbel := hidS (show SvX B R W w2.heap.size ep (some ⟨g, 0, none⟩) cx ay ny cy bx by' vs ss w8 from H7d.out.read hR8 hg8); obtain ⟨q, rfl⟩ := nat15 hy0 hy1; clear o0 o1 o2 e0 e1 e2; obtain ⟨⟨o0, o1, o2⟩, e0, e1, e2⟩ := box3 Hbel.out.b0)
            | (go_at_call 19; have hrd := Hbel.out.rd; refine (Q.off_any B R 1 1000000000 _ hrd (by omega) (by omega) (by omega)).mono ?_; rintro e w9 ⟨o, _, rfl, hR9, hg9⟩; have H9 := hidS (show SvX B R W w2.heap.size ep (some ⟨g, 0, none⟩) cx ay ny cy bx by' vs ss w9 from Hbel.out.read hR9 hg9); obtain ⟨⟨x1, s1⟩, s2⟩ := ints15_at (show Ints bx (.slice (some ⟨g, 0, none⟩) 15 cx) vs w9 from H9.out.r0) hv15 q (by omega); clear o0 o1 o2 e0 e1 e2; obtain ⟨⟨o0, o1, o2⟩, e0, e1, e2⟩ := box3 H9.out.b0)
            | (go_at_call 19; refine (Q.off_any B R 1 1000000000 _ H7d.out.rd (by omega) (by omega) (by omega)).mono ?_; rintro e w8 ⟨o, _, rfl, hR8, hg8⟩; have Hoff := hidS (show SvX B R W w2.heap.size ep (some ⟨g, 0, none⟩) cx ay ny cy bx by' vs ss w8 from H7d.out.read hR8 hg8); clear o0 o1 o2 e0 e1 e2; obtain ⟨⟨o0, o1, o2⟩, e0, e1, e2⟩ := box3 Hoff.out.b0))
          all_goals
            have HT := hidS (setVer H9.out hv15 q (by omega) o)
            clear H9 H7 H7d o0 o1 o2 e0 e1 e2
            generalize w9.setCell ⟨g, q, none⟩ (.int .i64 o) = wT at *
            obtain ⟨⟨o0, o1, o2⟩, e0, e1, e2⟩ := box3 HT.out.b0
            obtain ⟨⟨t0, t1, t2⟩, u0, u1, u2⟩ := box3 HT.out.b1
            have HE := hidS (HT.out.map fun _ H => ((H.s310 (.int .i64 ep)).s311 (.slice (some ⟨g, 0, none⟩) 15 cx)).s312 (.slice ay ny cy))
            clear HT
            go_wp2
            have HE' := HE.out
            generalize ((wT.setCell ⟨W.heap.size, 0, none⟩ (.int .i64 ep)).setCell ⟨W.heap.size, 1, none⟩ (.slice (some ⟨g, 0, none⟩) 15 cx)).setCell ⟨W.heap.size, 2, none⟩ (.slice ay ny cy) = WF at HE' ⊢
            obtain ⟨⟨z0, z1, z2⟩, _, _, _⟩ := box3 HE'.b1
            have kI : Ints bx (.slice (some ⟨g, 0, none⟩) 15 cx) (vs.set q o) WF := HE'.r0
            have kS : Seats by' (.slice ay ny cy) ss WF := HE'.r1
            exact bodyPost_ret (v := svv ep (.slice (some ⟨g, 0, none⟩) 15 cx) (.slice ay ny cy)) (by simp [results, Try.results39, go_sem, z0, z1, z2]) rfl ⟨ep, _, _, _, _, _, (vs.set q o), ss, rfl, by simp [hv15], hny, by omega, kI.mono HB.out.1, kS.mono HB.out.2, HE'.rd, HE'.grown⟩

        · have h38' : (n == 38) = false := by simpa using h38
          clear h38
          by_cases h39 : n = 39
          · have h39' : (n == 39) = true := by simpa using h39
            clear h39
            by_cases hs0 : ny = 0
            · subst hs0
              obtain ⟨⟨o0, o1, o2⟩, e0, e1, e2⟩ := box3 H7.out.b0
              obtain ⟨⟨t0, t1, t2⟩, u0, u1, u2⟩ := box3 H7.out.b1
              have HE := hidS (H7.out.map fun _ H => ((H.s310 (.int .i64 ep)).s311 (.slice (some ⟨g, 0, none⟩) 15 cx)).s312 (.slice ay 0 cy))
              clear H7
              go_wp2
              have HE' := HE.out
              generalize ((w7.setCell ⟨W.heap.size, 0, none⟩ (.int .i64 ep)).setCell ⟨W.heap.size, 1, none⟩ (.slice (some ⟨g, 0, none⟩) 15 cx)).setCell ⟨W.heap.size, 2, none⟩ (.slice ay 0 cy) = WF at HE' ⊢
              obtain ⟨⟨z0, z1, z2⟩, _, _, _⟩ := box3 HE'.b1
              have kI : Ints bx (.slice (some ⟨g, 0, none⟩) 15 cx) vs WF := HE'.r0
              have kS : Seats by' (.slice ay 0 cy) ss WF := HE'.r1
              exact bodyPost_ret (v := svv ep (.slice (some ⟨g, 0, none⟩) 15 cx) (.slice ay 0 cy)) (by simp [results, Try.results39, go_sem, z0, z1, z2]) rfl ⟨ep, _, _, _, _, _, vs, ss, rfl, hv15, hny, by omega, kI.mono HB.out.1, kS.mono HB.out.2, HE'.rd, HE'.grown⟩

            · have hs0' : 0 < ny := by omega
              obtain ⟨gs, rfl⟩ : ∃ gs, ay = some ⟨gs, 0, none⟩ := rowS (show Seats by' (.slice ay ny cy) ss w7 from H7.out.r1) hny hs0'
              have H7d := hidS (show SvX B R W w2.heap.size ep (some ⟨g, 0, none⟩) cx (some ⟨gs, 0, none⟩) ny cy bx by' vs ss w7.drew from H7.out.drew)
              go_upto_region 13 with fail
              go_region_with (go_at_call 19; refine (Q.off_any B R 8 15 _ H7d.out.rd (by omega) (by omega) (by omega)).mono ?_; rintro e w9 ⟨o, _, rfl, hR9, hg9⟩; have H9 := hidS (show SvX B R W w2.heap.size ep (some ⟨g, 0, none⟩) cx (some ⟨gs, 0, none⟩) ny cy bx by' vs ss w9 from H7d.out.read hR9 hg9); obtain ⟨⟨x1, s1⟩, s2⟩ := seat_at (show Seats by' (.slice (some ⟨gs, 0, none⟩) ny cy) ss w9 from H9.out.r1) hny hs0'; clear o0 o1 o2 e0 e1 e2; obtain ⟨⟨o0, o1, o2⟩, e0, e1, e2⟩ := box3 H9.out.b0)
              all_goals
                have HT := hidS (setLeaf H9.out hny hs0' o)
                clear H9 H7 H7d o0 o1 o2 e0 e1 e2
                generalize w9.setCell ⟨gs, 1, none⟩ (.int .i64 o) = wT at *
                obtain ⟨⟨o0, o1, o2⟩, e0, e1, e2⟩ := box3 HT.out.b0
                obtain ⟨⟨t0, t1, t2⟩, u0, u1, u2⟩ := box3 HT.out.b1
                have HE := hidS (HT.out.map fun _ H => ((H.s310 (.int .i64 ep)).s311 (.slice (some ⟨g, 0, none⟩) 15 cx)).s312 (.slice (some ⟨gs, 0, none⟩) ny cy))
                clear HT
                go_wp2
                have HE' := HE.out
                generalize ((wT.setCell ⟨W.heap.size, 0, none⟩ (.int .i64 ep)).setCell ⟨W.heap.size, 1, none⟩ (.slice (some ⟨g, 0, none⟩) 15 cx)).setCell ⟨W.heap.size, 2, none⟩ (.slice (some ⟨gs, 0, none⟩) ny cy) = WF at HE' ⊢
                obtain ⟨⟨z0, z1, z2⟩, _, _, _⟩ := box3 HE'.b1
                have kI : Ints bx (.slice (some ⟨g, 0, none⟩) 15 cx) vs WF := HE'.r0
                have kS : Seats by' (.slice (some ⟨gs, 0, none⟩) ny cy) (ss.set 0 ((kAt ss 0).1, o)) WF := HE'.r1
                exact bodyPost_ret (v := svv ep (.slice (some ⟨g, 0, none⟩) 15 cx) (.slice (some ⟨gs, 0, none⟩) ny cy)) (by simp [results, Try.results39, go_sem, z0, z1, z2]) rfl ⟨ep, _, _, _, _, _, vs, (ss.set 0 ((kAt ss 0).1, o)), rfl, hv15, by simp [hny], by omega, kI.mono HB.out.1, kS.mono HB.out.2, HE'.rd, HE'.grown⟩

          · have h39' : (n == 39) = false := by simpa using h39
            clear h39
            obtain ⟨⟨o0, o1, o2⟩, e0, e1, e2⟩ := box3 H7.out.b0
            obtain ⟨⟨t0, t1, t2⟩, u0, u1, u2⟩ := box3 H7.out.b1
            have HE := hidS (H7.out.map fun _ H => ((H.s310 (.int .i64 ep)).s311 (.slice (some ⟨g, 0, none⟩) 15 cx)).s312 (.slice ay ny cy))
            clear H7
            go_wp2
            have HE' := HE.out
            generalize ((w7.setCell ⟨W.heap.size, 0, none⟩ (.int .i64 ep)).setCell ⟨W.heap.size, 1, none⟩ (.slice (some ⟨g, 0, none⟩) 15 cx)).setCell ⟨W.heap.size, 2, none⟩ (.slice ay ny cy) = WF at HE' ⊢
            obtain ⟨⟨z0, z1, z2⟩, _, _, _⟩ := box3 HE'.b1
            have kI : Ints bx (.slice (some ⟨g, 0, none⟩) 15 cx) vs WF := HE'.r0
            have kS : Seats by' (.slice ay ny cy) ss WF := HE'.r1
            exact bodyPost_ret (v := svv ep (.slice (some ⟨g, 0, none⟩) 15 cx) (.slice ay ny cy)) (by simp [results, Try.results39, go_sem, z0, z1, z2]) rfl ⟨ep, _, _, _, _, _, vs, ss, rfl, hv15, hny, by omega, kI.mono HB.out.1, kS.mono HB.out.2, HE'.rd, HE'.grown⟩
    · have hj' : 0 < j := by omega
      obtain ⟨⟨o0, o1, o2⟩, e0, e1, e2⟩ := box3 HX.out.b0
      have HXd := hidS (show SvX B R W w2.heap.size ep ax cx ay ny cy bx by' vs ss wr.drew from HX.out.drew)
      go_wp2
      go_region_with (first
        | (go_at_call 43; refine (drawOp_any B R _ HXd.out.rd).mono ?_; rintro e w5 ⟨k, mm, rfl, hR5, hg5⟩; have H5 := hidS (show SvX B R W w2.heap.size ep ax cx ay ny cy bx by' vs ss w5 from HXd.out.read hR5 hg5); obtain ⟨⟨o0, o1, o2⟩, e0, e1, e2⟩ := box3 H5.out.b0)
        | (go_at_call 42; refine (specDone_any ep k mm (show Ints bx (.slice ax 15 cx) vs w5 from H5.out.r0) (show Seats by' (.slice ay ny cy) ss w5 from H5.out.r1)).mono ?_; rintro e w6 ⟨ep', x', y', vs', ss', re, v', ws', u', ks', code, rfl, l1, i3, s3, l2, v3, l3, u3, l4, b3, hok⟩; have HS6 := hidS (hok HS.out); obtain ⟨xa, xc, hv1, _, _⟩ := i3.row; obtain ⟨ya, yc, hv2, _, _⟩ := s3.row; rw [serverB_len HS6.out] at hv1; subst hv1 hv2; have H6 := hidS (H5.out.map fun _ H => ((H.adds b3 [fI w5.heap.size (.slice xa 15 xc) vs', fS w5.heap.size (.slice ya ss'.length yc) ss'] (two_rowsIS i3 s3).1 (new_two _ _ _ _ _) (two_rowsIS i3 s3).2).sub (List.Sublist.refl _) (List.sublist_append_left _ _))); clear i3 s3 v3 u3 b3 hok l1 l2 l3 l4; obtain ⟨⟨o0, o1, o2⟩, e0, e1, e2⟩ := box3 H6.out.b0))
      all_goals
        have HF := hidS (show SvX B R W w2.heap.size ep' xa xc ya ss'.length yc w5.heap.size w5.heap.size vs' ss' _ from H6.out.map fun _ H => ((H.s300 (.int .i64 ep')).s301 (.slice xa 15 xc)).s302 (.slice ya ss'.length yc))
        clear H6 H5 HXd HX o0 o1 o2 e0 e1 e2
        go_wp2
        go_roundw
        case rel => exact ⟨j - 1, ep', xa, xc, ya, ss'.length, yc, w5.heap.size, w5.heap.size, vs', ss', by go_num, by omega, rfl, HS6, HF⟩
        case measure => simp [intOf]; omega
end Go.Proofs.Ytjilbfohfgalkaa
/- Rekeys that are right: rekeyOk of the program, l4RekeyOk of the model. -/
namespace Go.Proofs.Ytjilbfohfgalkaa
open Go.RowKit

theorem hidA {p : Prop} (h : p) : Hid p := h
abbrev rv (ep : Int) (x : Value) : Value := .agg #[.int .i64 ep, x]
abbrev rb (ep : Int) (x : Value) : Obj := .cells #[.int .i64 ep, x] 29
/-- A rekey is right. -/
def rkB (ep : Int) (ws : List W4) : Bool := decide (1 ≤ ep ∧ ep ≤ 1000000000) && wrapsB ws
theorem rkB_wraps {ep : Int} {ws : List W4} (h : rkB ep ws = true) : wrapsB ws = true := by
  unfold rkB at h
  simp only [Bool.and_eq_true] at h
  exact h.2
theorem wrapsSince {B : Nat} {v : Value} {ws : List W4} {W W' : World} (h : Wraps B v ws W) (hb : Below W.heap.size W W') : Wraps B v ws W' := by
  have := RowF.since (r := ⟨B, 112, 4, v, ws.length, wcells ws⟩) h hb
  exact this
theorem rcell2 (w : World) (ep : Int) (x : Value) : (w.alloc (rb ep x)).cell? ⟨w.heap.size, 0, none⟩ = some (.int .i64 ep) ∧ (w.alloc (rb ep x)).cell? ⟨w.heap.size, 1, none⟩ = some x := by simp

set_option maxRecDepth 100000 in
theorem rekeyOk_any {B : Nat} {x : Value} {ws : List W4} {w : World} (ep : Int) (h : Wraps B x ws w) :
    Calls Try.prog 47 #[rv ep x] w fun e w' => e = .returned (.bool (rkB ep ws)) ∧ Below w.heap.size w w' := by
  have hB1 := one_below w (rb ep x)
  obtain ⟨c0, c1⟩ := rcell2 w ep x
  have X1 := hidA (wrapsSince h hB1)
  clear h
  by_cases h1 : 1 ≤ ep
  · by_cases h2 : ep ≤ 1000000000
    · have HR := hidA (show rkB ep ws = wrapsB ws by simp [rkB, h1, h2])
      go_enter Try.func47, Try.ntmps47
      go_wp2_with fail
      generalize w.alloc (rb ep x) = w1 at *
      refine (wrapsOk_any X1.out).mono ?_
      rintro e w2 ⟨rfl, b2⟩
      have B2 := hidA (more hB1 b2)
      clear hB1 b2 c0 c1 X1
      go_wp2
      go_ret
      exact ⟨by rw [HR.out]; rfl, B2.out⟩
    · have HR := hidA (show rkB ep ws = false by simp [rkB, h2])
      go_enter Try.func47, Try.ntmps47
      go_wp2
      go_ret
      exact ⟨by rw [HR.out]; rfl, hB1⟩
  · have HR := hidA (show rkB ep ws = false by simp [rkB, h1])
    go_enter Try.func47, Try.ntmps47
    go_wp2
    go_ret
    exact ⟨by rw [HR.out]; rfl, hB1⟩

set_option maxRecDepth 100000 in
theorem l4RekeyOk_any {B : Nat} {x : Value} {ws : List W4} {w : World} (ep : Int) (h : Wraps B x ws w) :
    Calls Try.prog 52 #[rv ep x] w fun e w' => e = .returned (.bool (rkB ep ws)) ∧ Below w.heap.size w w' := by
  have hB1 := one_below w (rb ep x)
  obtain ⟨c0, c1⟩ := rcell2 w ep x
  have X1 := hidA (wrapsSince h hB1)
  clear h
  go_enter Try.func52, Try.ntmps52
  go_wp2_with fail
  generalize w.alloc (rb ep x) = w1 at *
  refine (l1InK_any _ _ _ _).mono ?_
  rintro e w' ⟨rfl, rfl⟩
  cases h1 : decide (1 ≤ ep ∧ ep ≤ 1000000000) with
  | false =>
    have HR := hidA (show rkB ep ws = false by simp [rkB, h1])
    clear h1
    go_wp2
    go_ret
    exact ⟨by rw [HR.out]; rfl, hB1⟩
  | true =>
    have HR := hidA (show rkB ep ws = wrapsB ws by simp [rkB, h1])
    clear h1
    go_wp2_with fail
    refine (specWrapsOk_any X1.out).mono ?_
    rintro e w2 ⟨rfl, b2⟩
    have B2 := hidA (more hB1 b2)
    clear hB1 b2 c0 c1 X1
    go_wp2
    go_ret
    exact ⟨by rw [HR.out]; rfl, B2.out⟩
end Go.Proofs.Ytjilbfohfgalkaa
/- Rows in another order; lists of rekeys in memory. -/
namespace Go.Proofs.Ytjilbfohfgalkaa
open Go.RowKit

theorem Hex.perm {w0 W : World} {bs : List (Nat × Obj)} {rs rs' : List RowF} {ex : RowF} (H : Hex w0 bs rs ex W) (hp : rs.Perm rs') : Hex w0 bs rs' ex W :=
  ⟨H.bel, H.exOn, H.low, H.box, H.new, H.nod, fun r hr => H.row r (hp.mem_iff.2 hr), fun r hr => H.fresh r (hp.mem_iff.2 hr), (hp.pairwise_iff (fun h k e e' => h k e' e)).1 H.apart, fun p h r hr => H.off p h r (hp.mem_iff.2 hr)⟩

/-- A rekey of a list: its Epoch, where its wraps lie, the wraps, from where on. -/
structure RE where
  ep : Int
  v : Value
  ws : List W4
  b : Nat
def recells (es : List RE) : List Value := es.flatMap fun e => [.int .i64 e.ep, e.v]
theorem recells_length (es : List RE) : (recells es).length = es.length * 2 := by
  induction es with
  | nil => rfl
  | cons k ks ih => simp only [recells, List.flatMap_cons, List.length_append, List.length_cons, List.length_nil] at ih ⊢; omega
theorem recells_append (a b : List RE) : recells (a ++ b) = recells a ++ recells b := by simp [recells]
theorem recells_get (es : List RE) : ∀ i (hi : i < es.length), (recells es)[i * 2]? = some (.int .i64 es[i].ep) ∧ (recells es)[i * 2 + 1]? = some es[i].v := by
  induction es with
  | nil => intro i hi; simp at hi
  | cons k ks ih =>
    intro i hi
    match i, hi with
    | 0, _ => simp [recells]
    | i + 1, hi =>
      have := ih i (by simpa using hi)
      have e1 : (i + 1) * 2 = i * 2 + 1 + 1 := by omega
      have e2 : (i + 1) * 2 + 1 = i * 2 + 1 + 1 + 1 := by omega
      rw [e2, e1]
      simpa [recells] using this
abbrev fL (B : Nat) (v : Value) (es : List RE) : RowF := ⟨B, 29, 2, v, es.length, recells es⟩
abbrev reRow (e : RE) : RowF := fW e.b e.v e.ws
theorem infoRe : (Try.prog.info? 29).map (fun i => (i.zero, i.size, i.bytes)) = some (some (.agg #[.int .i64 0, .slice none 0 0]), 2, 32) := by kernel_rfl
theorem re_types (es : List RE) {t : TypeId} (ht : (112 : TypeId) ≠ t) : ∀ s, s ∈ es.map reRow → s.t ≠ t := fun s hs => by
  obtain ⟨e, _, rfl⟩ := List.mem_map.1 hs
  exact ht
theorem re_at {B g n c : Nat} {es : List RE} {W : World} (h : (fL B (.slice (some ⟨g, 0, none⟩) n c) es).on W) (i : Nat) (hi : i < es.length) : W.cell? ⟨g, i * 2, none⟩ = some (.int .i64 es[i].ep) ∧ W.cell? ⟨g, i * 2 + 1, none⟩ = some es[i].v := by
  rcases h.2 with ⟨e, _⟩ | ⟨g', cap, cur, e, hb, hg, h1, h3, h4, h5⟩
  · cases e
  · injection e with e1 e2 e3
    injection e1 with e1
    injection e1 with e1
    subst e1
    have hk := recells_get es i hi
    have hg' : W.heap[g]? = some (.cells cur 29 (0, 0)) := hg
    have h5' : cur.toList.take (es.length * 2) = recells es := h5
    have c1 : cur[i * 2]? = some (.int .i64 es[i].ep) := by
      have h := hk.1
      rw [← h5', List.getElem?_take_of_lt (by omega)] at h
      simpa using h
    have c2 : cur[i * 2 + 1]? = some es[i].v := by
      have h := hk.2
      rw [← h5', List.getElem?_take_of_lt (by omega)] at h
      simpa using h
    exact ⟨by simp [World.cell?, hg', c1], by simp [World.cell?, hg', c2]⟩
/-- The reader read on by a call that answers new rows. -/
theorem RdX.readRows {B R : Nat} {w0 W W' : World} {bs : List (Nat × Obj)} {rs : List RowF} (h : RdX B R w0 bs rs W) (hr : Q.Rd B R W') (hg : W.grownBy W' (some R)) (ns : List RowF) (hn : ∀ r, r ∈ ns → r.on W') (hB : ∀ r, r ∈ ns → W.heap.size ≤ r.B) (hp : ns.Pairwise fun r s => ∀ k, r.v.ownBlock = some k → s.v.ownBlock ≠ some k) : RdX B R w0 bs (ns ++ rs) W' := by
  have hlt := h.at fun _ H => (show (∀ p, p ∈ bs → p.1 < W.heap.size) ∧ (∀ r, r ∈ rs → ∀ k, r.v.ownBlock = some k → k < W.heap.size) ∧ w0.heap.size ≤ W.heap.size from ⟨fun p hp => blkLt (H.box p hp), fun r hr k e => ((H.row r hr).lt k e).2, H.bel.size⟩)
  refine (h.read hr hg).map fun _ H => ⟨H.bel, H.exOn, H.low, H.box, H.new, H.nod, fun r hr => ?_, fun r hr => ?_, List.pairwise_append.2 ⟨hp, H.apart, fun r hr s hs k e e' => ?_⟩, fun p hp r hr e => ?_⟩
  · rcases List.mem_append.1 hr with hr | hr
    · exact hn r hr
    · exact H.row r hr
  · rcases List.mem_append.1 hr with hr | hr
    · exact Nat.le_trans hlt.2.2 (hB r hr)
    · exact H.fresh r hr
  · have h1 := ((hn r hr).lt k e).1
    have h2 := hB r hr
    have h3 := hlt.2.1 s hs k e'
    omega
  · rcases List.mem_append.1 hr with hr | hr
    · have h1 := ((hn r hr).lt _ e).1
      have h2 := hB r hr
      have h3 := hlt.1 p hp
      omega
    · exact H.off p hp r hr e
theorem RdX.perm {B R : Nat} {w0 W : World} {bs : List (Nat × Obj)} {rs rs' : List RowF} (h : RdX B R w0 bs rs W) (hp : rs.Perm rs') : RdX B R w0 bs rs' W := h.map fun _ H => H.perm hp
theorem RdX.sub {B R : Nat} {w0 W : World} {bs bs' : List (Nat × Obj)} {rs rs' : List RowF} (h : RdX B R w0 bs rs W) (hc : bs'.Sublist bs) (hr : rs'.Sublist rs) : RdX B R w0 bs' rs' W := h.map fun _ H => H.sub hc hr
theorem RdX.r2 {B R : Nat} {w0 W : World} {bs : List (Nat × Obj)} {rs : List RowF} {s0 s1 r : RowF} (h : RdX B R w0 bs (s0 :: s1 :: r :: rs) W) : r.on W := h.at fun _ H => H.row r (.tail _ (.tail _ (.head _)))
theorem RdX.r3 {B R : Nat} {w0 W : World} {bs : List (Nat × Obj)} {rs : List RowF} {s0 s1 s2 r : RowF} (h : RdX B R w0 bs (s0 :: s1 :: s2 :: r :: rs) W) : r.on W := h.at fun _ H => H.row r (.tail _ (.tail _ (.tail _ (.head _))))
theorem litRe (X : World) : (fL X.heap.size (.slice (some ⟨X.heap.size, 0, none⟩) 0 0) []).on (X.alloc (.cells #[] 29)) := World.ownsRow_lit X #[] 0 (Nat.le_refl _) (by decide) rfl
end Go.Proofs.Ytjilbfohfgalkaa
/- The contracts of MemberOk, of the program and of the model. -/
namespace Go.Proofs.Ytjilbfohfgalkaa
open Go.RowKit

abbrev mb (id ep : Int) (v : Value) : Obj := .cells #[.int .i64 id, .int .i64 ep, v] 26
theorem cell3 (w : World) (x y : Int) (v : Value) : (w.alloc (mb x y v)).cell? ⟨w.heap.size, 0, none⟩ = some (.int .i64 x) ∧ (w.alloc (mb x y v)).cell? ⟨w.heap.size, 1, none⟩ = some (.int .i64 y) ∧ (w.alloc (mb x y v)).cell? ⟨w.heap.size, 2, none⟩ = some v := by simp
theorem below_drewN' {n : Nat} {w W : World} (h : Below n w W) (k : Nat) : Below n w (W.drewN k) := ⟨h.os, h.tape, h.output, h.size, h.block⟩

set_option maxHeartbeats 1000000 in
theorem specMemberOk_any {B : Nat} {v : Value} {ks : List (Int × Int)} {w : World} (id ep : Int) (h : Keys B v ks w) :
    Calls Try.prog 23 #[mv id ep v] w fun e w' => e = .returned (.bool (memberB id ep ks)) ∧ Below w.heap.size w w' := by
  obtain ⟨c0, c1, c2⟩ := cell3 w id ep v
  have hB1 := one_below w (mb id ep v)
  have HK : Hid (Keys B v ks (w.alloc (mb id ep v))) := h.below hB1 (fun k e => (h.lt k e).2)
  clear h
  go_enter Try.func23, Try.ntmps23
  go_wp2_with fail
  generalize w.alloc (mb id ep v) = w1 at c0 c1 c2 hB1 HK ⊢
  refine (l1InK_any _ _ _ _).mono ?_
  rintro e w' ⟨rfl, rfl⟩
  cases h1 : decide (1 ≤ id ∧ id ≤ 20) with
  | false =>
    go_wp2
    go_ret
    exact ⟨by show Ending.returned (.bool false) = _; simp [memberB, headB, h1], hB1⟩
  | true =>
  go_wp2_with fail
  refine (l1InK_any _ _ _ _).mono ?_
  rintro e w' ⟨rfl, rfl⟩
  cases h2 : decide (0 ≤ ep ∧ ep ≤ 1000000000) with
  | false =>
    go_wp2
    go_ret
    exact ⟨by show Ending.returned (.bool false) = _; simp [memberB, headB, h2], hB1⟩
  | true =>
  go_wp2_with fail
  refine (specKnownOk_any HK.out).mono ?_
  rintro e w2 ⟨rfl, hb2⟩
  have hB2 := hB1.trans (hb2.mono hB1.size)
  have d2 := cell_since c2 hb2
  obtain ⟨a, c, hv, hm, hrow⟩ := (HK.out.below hb2 (fun k e => (HK.out.lt k e).2)).row
  subst hv
  clear c0 c1 c2 hb2 HK hB1
  cases h3 : knownB ks with
  | false =>
    go_wp2
    go_ret
    exact ⟨by show Ending.returned (.bool false) = _; simp [memberB, headB, h3], hB2⟩
  | true =>
  have HM : Hid (memberB id ep ks = nodesTo ks ks.length) := by
    show memberB id ep ks = _
    simp [memberB, headB, h1, h2, h3]
  clear h1 h2 h3
  have HR : Hid (KRow a ks w2) := hrow
  clear hrow
  unfold maxLen at hm
  generalize hn : ks.length = n at hm d2 HM ⊢
  go_wp2
  go_loopw [3] (fun i wr => ∃ k : Nat, i = .int .i64 ((k : Int) + 1) ∧ (k + 1 ≤ n ∨ k = 0) ∧ nodesTo ks (k + 1) = true ∧ ∃ q, wr = w2.drewN q) (fun i _ => n + 1 - (intOf i).toNat)
  case atStart => exact ⟨0, rfl, .inr rfl, rfl, 0, rfl⟩
  case round =>
    obtain ⟨k, rfl, hkn, hpre, q, rfl⟩ := hrel
    have HP : Hid (nodesTo ks (k + 1) = true) := hpre
    clear hpre
    by_cases hlt : k + 1 < n
    · have hlk : k + 1 < ks.length := by omega
      obtain ⟨g, ha, hg, hseg⟩ : ∃ g, a = some ⟨g, 0, none⟩ ∧ g < w2.heap.size ∧ KSeg g 0 ks w2 := by
        rcases HR.out with e | e
        · rw [e] at hlk; simp at hlk
        · exact e
      subst ha
      have a1 := (hseg k (by omega)).1
      have a2 := (hseg (k + 1) hlk).1
      simp only [Nat.zero_add] at a1 a2
      have HN : Hid (nodeAt ks (k + 1) = !decide (ks[k].1 = ks[k + 1].1)) := by
        show nodeAt ks (k + 1) = _
        unfold nodeAt
        rw [kAt_get ks (k + 1) hlk, Nat.add_sub_cancel, kAt_get ks k (by omega)]
        simp
      clear hseg
      generalize ks[k].1 = x1 at a1 HN
      generalize ks[k + 1].1 = x2 at a2 HN
      by_cases hx : x1 = x2
      · have hx' : (x1 == x2) = true := by simpa using hx
        have HF : Hid (nodesTo ks n = false) := nodesTo_false (m := k + 1) (by rw [HN.out]; simp [hx]) hlt
        subst hx
        go_wp2
        go_quiet (fail)
        go_wp2
        go_ret
        exact ⟨by rw [HM.out, HF.out]; rfl, below_drewN' (below_drewN' hB2 _) _⟩
      · have hx' : (x1 == x2) = false := by simpa using hx
        have HF : Hid (nodesTo ks (k + 1 + 1) = true) := by
          show nodesTo ks (k + 1 + 1) = true
          rw [nodesTo_succ, HP.out, HN.out]; simp [hx]
        go_wp2
        go_quiet (fail)
        go_wp2
        go_roundw
        case rel => exact ⟨k + 1, by go_num, .inl (by omega), HF.out, q + nq, by simp⟩
        case measure => simp [intOf]; omega
    · have HF : Hid (nodesTo ks n = true) := by
        show nodesTo ks n = true
        rcases hkn with e | e
        · have : k + 1 = n := by omega
          rw [← this]; exact HP.out
        · subst e
          have : n = 0 ∨ n = 1 := by omega
          rcases this with e | e <;> rw [e]
          · rfl
          · exact HP.out
      go_wp2
      go_ret
      exact ⟨by rw [HM.out, HF.out]; rfl, below_drewN' hB2 _⟩

set_option maxHeartbeats 1000000 in
theorem memberOk_any {B : Nat} {v : Value} {ks : List (Int × Int)} {w : World} (id ep : Int) (h : Keys B v ks w) :
    Calls Try.prog 11 #[mv id ep v] w fun e w' => e = .returned (.bool (memberB id ep ks)) ∧ Below w.heap.size w w' := by
  obtain ⟨c0, c1, c2⟩ := cell3 w id ep v
  have hB1 := one_below w (mb id ep v)
  have HK : Hid (Keys B v ks (w.alloc (mb id ep v))) := h.below hB1 (fun k e => (h.lt k e).2)
  clear h
  go_enter Try.func11, Try.ntmps11
  go_wp2_with fail
  generalize w.alloc (mb id ep v) = w1 at c0 c1 c2 hB1 HK ⊢
  refine (isMember_any _ _).mono ?_
  rintro e w' ⟨rfl, rfl⟩
  cases h1 : decide (1 ≤ id ∧ id ≤ 20) with
  | false =>
    go_wp2
    go_ret
    exact ⟨by show Ending.returned (.bool false) = _; simp [memberB, headB, h1], hB1⟩
  | true =>
  go_wp2_with fail
  refine (epochOk_any _ _).mono ?_
  rintro e w' ⟨rfl, rfl⟩
  cases h2 : decide (0 ≤ ep ∧ ep ≤ 1000000000) with
  | false =>
    go_wp2
    go_ret
    exact ⟨by show Ending.returned (.bool false) = _; simp [memberB, headB, h2], hB1⟩
  | true =>
  go_wp2_with fail
  refine (knownOk_any HK.out).mono ?_
  rintro e w2 ⟨rfl, hb2⟩
  have hB2 := hB1.trans (hb2.mono hB1.size)
  have d2 := cell_since c2 hb2
  obtain ⟨a, c, hv, hm, hrow⟩ := (HK.out.below hb2 (fun k e => (HK.out.lt k e).2)).row
  subst hv
  clear c0 c1 c2 hb2 HK hB1
  cases h3 : knownB ks with
  | false =>
    go_wp2
    go_ret
    exact ⟨by show Ending.returned (.bool false) = _; simp [memberB, headB, h3], hB2⟩
  | true =>
  have HM : Hid (memberB id ep ks = nodesTo ks ks.length) := by
    show memberB id ep ks = _
    simp [memberB, headB, h1, h2, h3]
  clear h1 h2 h3
  have HR : Hid (KRow a ks w2) := hrow
  clear hrow
  unfold maxLen at hm
  generalize hn : ks.length = n at hm d2 HM ⊢
  go_wp2
  go_loopw [24] (fun i wr => ∃ k : Nat, i = .int .i64 (k : Int) ∧ k ≤ n ∧ nodesTo ks k = true ∧ Below w2.heap.size w2 wr) (fun i _ => n - (intOf i).toNat)
  case atStart => exact ⟨0, rfl, Nat.zero_le _, rfl, Below.refl _ _⟩
  case round =>
    obtain ⟨k, rfl, hkn, hpre, hB⟩ := hrel
    have HP : Hid (nodesTo ks k = true) := hpre
    clear hpre
    have HB : Hid (Below w.heap.size w wr) := hB2.trans (hB.mono hB2.size)
    by_cases hlt : k < n
    · have hlk : k < ks.length := by omega
      obtain ⟨g, ha, hg, hseg⟩ : ∃ g, a = some ⟨g, 0, none⟩ ∧ g < w2.heap.size ∧ KSeg g 0 ks w2 := by
        rcases HR.out with e | e
        · rw [e] at hlk; simp at hlk
        · exact e
      subst ha
      have a1 := (hseg k hlk).1
      have a2 := (hseg k hlk).2
      simp only [Nat.zero_add] at a1 a2
      have e1 := cell_since a1 hB
      have e2 := cell_since a2 hB
      have e3 := cell_since d2 hB
      by_cases hk0 : k = 0
      · subst hk0
        clear a1 a2 hseg
        simp only [Nat.zero_mul, Nat.zero_add] at e1 e2
        generalize ks[0].1 = x1 at e1
        generalize ks[0].2 = x2 at e2
        have HF : Hid (nodesTo ks 1 = true) := rfl
        have HB' : Hid (Below w2.heap.size w2 (wr.alloc (kb x1 x2))) := hB.alloc hB.size _
        go_wp2
        go_quiet (fail)
        go_wp2
        go_roundw
        case rel => exact ⟨1, by go_num, by omega, HF.out, below_drewN' HB'.out _⟩
        case measure => simp [intOf]; omega
      · obtain ⟨m, rfl⟩ : ∃ m, k = m + 1 := ⟨k - 1, by omega⟩
        have a3 := (hseg m (by omega)).1
        simp only [Nat.zero_add] at a3
        have e4 := cell_since a3 hB
        have HN : Hid (nodeAt ks (m + 1) = !decide (ks[m].1 = ks[m + 1].1)) := by
          show nodeAt ks (m + 1) = _
          unfold nodeAt
          rw [kAt_get ks (m + 1) hlk, Nat.add_sub_cancel, kAt_get ks m (by omega)]
          simp
        clear a1 a2 a3 hseg
        generalize ks[m].1 = x0 at e4 HN
        generalize ks[m + 1].1 = x1 at e1 HN
        generalize ks[m + 1].2 = x2 at e2
        have f3 := cell_since e3 (one_below wr (kb x1 x2))
        have f4 := cell_since e4 (one_below wr (kb x1 x2))
        have HB' : Hid (Below w2.heap.size w2 (wr.alloc (kb x1 x2))) := hB.alloc hB.size _
        have HW' : Hid (Below w.heap.size w (wr.alloc (kb x1 x2))) := HB.out.alloc HB.out.size _
        by_cases hx : x0 = x1
        · have hx' : (x0 == x1) = true := by simpa using hx
          have HF : Hid (nodesTo ks n = false) := nodesTo_false (m := m + 1) (by rw [HN.out]; simp [hx]) hlt
          subst hx
          go_wp2
          go_quiet (fail)
          go_wp2
          go_ret
          exact ⟨by rw [HM.out, HF.out]; rfl, below_drewN' HW'.out _⟩
        · have hx' : (x0 == x1) = false := by simpa using hx
          have HF : Hid (nodesTo ks (m + 1 + 1) = true) := by
            show nodesTo ks (m + 1 + 1) = true
            rw [nodesTo_succ, HP.out, HN.out]; simp [hx]
          go_wp2
          go_quiet (fail)
          go_wp2
          go_roundw
          case rel => exact ⟨m + 1 + 1, by go_num, by omega, HF.out, below_drewN' HB'.out _⟩
          case measure => simp [intOf]; omega
    · have HF : Hid (nodesTo ks n = true) := by
        have : k = n := by omega
        rw [← this]; exact HP
      go_wp2
      go_ret
      exact ⟨by rw [HM.out, HF.out]; rfl, HB.out⟩
end Go.Proofs.Ytjilbfohfgalkaa
