/- The code of a drawn law: bytes, and the test of its length. -/
import Derived.Test.YtjilbfohfgalkaaPart0
import Derived.Deep.RegionHeld3
import Derived.Test.YtjilbfohfgalkaaDmb2
import Derived.Test.YtjilbfohfgalkaaPart6
import Derived.Test.YtjilbfohfgalkaaPart1
import Derived.Test.YtjilbfohfgalkaaPart4
import Derived.Test.YtjilbfohfgalkaaPart7
import Derived.Test.YtjilbfohfgalkaaPart2
import Derived.Laws.AppendOwnNone
namespace Go.Proofs.Ytjilbfohfgalkaa
open Go.RowKit
namespace Q

/-- The bytes that are drawn from: they lie below B. -/
def Bytes (B : Nat) (a : Option Addr) (len : Nat) (W : World) : Prop :=
  len ≤ maxLen ∧ ∀ i, i < len → ∃ b off x, a = some ⟨b, off, none⟩ ∧ b < B ∧ W.cell? ⟨b, off + i, none⟩ = some (.int .u8 x) ∧ 0 ≤ x ∧ x ≤ 255
theorem Bytes.kept {B len : Nat} {a : Option Addr} {W W' : World} (h : Bytes B a len W) (hb : Below B W W') : Bytes B a len W' :=
  ⟨h.1, fun i hi => by
    obtain ⟨b, off, x, e, hB, hc, hx⟩ := h.2 i hi
    exact ⟨b, off, x, e, hB, (hb.cell (p := ⟨b, off + i, none⟩) hB).trans hc, hx⟩⟩
theorem Bytes.rd {B len : Nat} {a : Option Addr} {W : World} (h : Bytes B a len W) (hB : B ≤ W.heap.size) (cap : Nat) : Rd B W.heap.size (W.alloc (.cells #[.slice a len cap, .int .i64 0] 74)) := by
  refine ⟨a, len, cap, 0, Nat.zero_le _, h.1, hB, blk_new _ _, fun i hi => ?_⟩
  obtain ⟨b, off, x, e, hb, hc, hx⟩ := h.2 i hi
  exact ⟨b, off, x, e, hb, (World.grownBy_alloc W _ none).cell hc (by simp), hx⟩

theorem big_any (a : Option Addr) (len cap : Nat) (W : World) :
    Calls Try.prog 5 #[.slice a len cap] W fun e W' => e = .returned (.bool (decide ((1048576 : Int) < (len : Int)))) ∧ W' = W := by
  go_enter Try.func5, Try.ntmps5
  go_wp2
  go_ret
  exact ⟨by simp, rfl⟩

end Q
end Go.Proofs.Ytjilbfohfgalkaa
/- What the drawn law of CaughtUp draws: a member and a server. -/
namespace Go.Proofs.Ytjilbfohfgalkaa
open Go.RowKit

theorem Home.drawn {w0 w2 w3 : World} {bs bs' : List (Nat × Obj)} {rs : List RowF} {B R : Nat} (H : Home w0 bs [] w2) (X : RdX B R w2 bs' rs w3) (hR : w0.heap.size ≤ R) (hb : ∀ p, p ∈ bs → p.1 ≠ R) : Home w0 (bs' ++ bs) rs w3 := by
  have hg := X.grown
  have hs := H.bel.size
  obtain ⟨a, len, cap, p, h1, X⟩ := X
  refine ⟨H.bel.grown hg hs (fun k e => by cases e; exact hR), fun p hp => ?_, fun p hp => ?_, List.pairwise_append.2 ⟨X.nod, H.nod, fun p hp q hq e => ?_⟩, X.row, fun r hr => Nat.le_trans hs (X.fresh r hr), X.apart, fun p hp r hr e => ?_⟩
  · rcases List.mem_append.1 hp with hp | hp
    · exact X.box p hp
    · exact (hg.block p.1 (blkLt (H.box p hp)) (fun e => by injection e with e; first | exact hb p hp e | exact hb p hp e.symm)).trans (H.box p hp)
  · rcases List.mem_append.1 hp with hp | hp
    · exact Nat.le_trans hs (X.new p hp)
    · exact H.new p hp
  · have h1 := X.new p hp
    have h2 := blkLt (H.box q hq)
    omega
  · rcases List.mem_append.1 hp with hp | hp
    · exact X.off p hp r hr e
    · have h1 := ((X.row r hr).lt _ e).1
      have h2 := X.fresh r hr
      have h3 := blkLt (H.box p hp)
      omega

set_option maxRecDepth 100000 in
set_option maxHeartbeats 8000000 in
theorem drawCaughtUp_any (a : Option Addr) (len cap : Nat) (W : World) (h : Q.Bytes W.heap.size a len W) :
    Calls Try.prog 12 #[.slice a len cap] W fun e W' => ∃ (id me ep : Int) (ak : Option Addr) (nk ck bk : Nat) (ks : List (Int × Int)) (ax : Option Addr) (nx cx : Nat) (ay : Option Addr) (ny cy bx by' : Nat) (vs : List Int) (ss : List (Int × Int)), e = .returned (.tuple #[mv id me (.slice ak nk ck), svv ep (.slice ax nx cx) (.slice ay ny cy)]) ∧ ks.length = nk ∧ nk ≤ 5 ∧ ss.length = ny ∧ ny ≤ 9 ∧ vs.length = nx ∧ Home W [] [fK bk (.slice ak nk ck) ks, fI bx (.slice ax nx cx) vs, fS by' (.slice ay ny cy) ss] W' := by
  have H0 := hidS (((Home.start W).alloc (mb 0 0 (.slice none 0 0))).alloc (svb 0 (.slice none 0 0) (.slice none 0 0)))
  simp only [World.size_alloc] at H0
  have hB1 := two_below W (mb 0 0 (.slice none 0 0)) (svb 0 (.slice none 0 0) (.slice none 0 0))
  have h1 := h.kept hB1
  have HS1 := hidS (show ((W.alloc (mb 0 0 (.slice none 0 0))).alloc (svb 0 (.slice none 0 0) (.slice none 0 0))).heap.size = W.heap.size + 1 + 1 by simp)
  clear hB1 h
  go_enter Try.func12, Try.ntmps12
  go_wp2_with fail
  generalize (W.alloc (mb 0 0 (.slice none 0 0))).alloc (svb 0 (.slice none 0 0) (.slice none 0 0)) = w1 at *
  refine (Q.l1Open_any a len cap _).mono ?_
  rintro e w2 ⟨rfl, hw2⟩
  have R2 : Q.Rd W.heap.size w1.heap.size w2 := by rw [hw2]; exact h1.rd (by have := HS1.out; omega) cap
  have H2 := hidS (H0.out.since (show Below w1.heap.size w1 w2 by rw [hw2]; exact one_below _ _))
  clear hw2 h1 H0
  go_wp2_with fail
  refine (drawMember_any W.heap.size w1.heap.size w2 R2).mono ?_
  rintro e w3 ⟨id, me, ep, ak, nk, ck, bk, ks, al, nl, cl, es, ax, nx, cx, ay, ny, cy, bx, by', vs, ss, rfl, hnk, hk5, hes, hl3, hny, h9, hnx, X3⟩
  have X4 := hidS ((X3.alloc (mb id me (.slice ak nk ck))).alloc (svb ep (.slice ax nx cx) (.slice ay ny cy)))
  simp only [World.size_alloc] at X4
  have H4 := hidS (H2.out.drawn X4.out (by have := HS1.out; omega) (fun p hp => by
    have hs := HS1.out
    simp only [List.mem_cons, List.not_mem_nil, or_false] at hp
    rcases hp with rfl | rfl <;> simp only [ne_eq] <;> omega))
  have HN := hidS (And.intro hnk (And.intro hk5 (And.intro hny (And.intro h9 hnx))))
  clear X3 X4 H2 R2 HS1 hnk hk5 hes hl3 hny h9 hnx
  go_upto_region 3 with fail
  generalize (w3.alloc (mb id me (.slice ak nk ck))).alloc (svb ep (.slice ax nx cx) (.slice ay ny cy)) = w4 at H4 ⊢
  refine wp_region_any (by kernel_rfl) ?_
  try (change wpAny _ _ _ _ _ _ _ (World.drew _))
  have X0 := hidS (H4.out.drew)
  clear H4
  generalize World.drew w4 = x0 at X0 ⊢
  obtain ⟨⟨m0, m1, m2⟩, mf0, mf1, mf2⟩ := box3 X0.out.b1
  obtain ⟨⟨o0, o1, o2⟩, e0, e1, e2⟩ := box3 X0.out.b0
  obtain ⟨⟨p0, p1, p2⟩, f0, f1, f2⟩ := box3 X0.out.b3
  have H17 := hidS (((X0.out.s330 (.int .i64 id)).s331 (.int .i64 me)).s332 (.slice ak nk ck))
  have H18 := hidS (((H17.out.s320 (.int .i64 ep)).s321 (.slice ax nx cx)).s322 (.slice ay ny cy))
  clear X0
  refine wpAny_ready (rs := [0, 1]) (by kernel_rfl) (by simp) ?_
  refine AllReady.cons rfl (fun K hK => ?_) (AllReady.cons rfl (fun K hK => ?_) AllReady.nil)
  · go_simp
    refine hK _ _ ?_
    clear hK K
    refine wpAny_ready (rs := [1, 2]) (by kernel_rfl) (by simp) ?_
    refine AllReady.cons rfl (fun K hK => ?_) (AllReady.cons rfl (fun K hK => ?_) AllReady.nil)
    · go_simp
      refine hK _ _ ?_
      clear hK K
      refine wpAny_ready (rs := [2]) (by kernel_rfl) (by simp) ?_
      refine AllReady.cons rfl (fun K hK => ?_) AllReady.nil
      · go_simp
        refine hK _ _ ?_
        clear hK K
        clear m0 m1 m2 mf0 mf1 mf2 o0 o1 o2 e0 e1 e2 p0 p1 p2 f0 f1 f2
        generalize ((x0.setCell ⟨W.heap.size, 0, none⟩ (.int .i64 id)).setCell ⟨W.heap.size, 1, none⟩ (.int .i64 me)).setCell ⟨W.heap.size, 2, none⟩ (.slice ak nk ck) = x1 at H17 H18 ⊢
        obtain ⟨⟨m0, m1, m2⟩, mf0, mf1, mf2⟩ := box3 H17.out.b1
        obtain ⟨⟨o0, o1, o2⟩, e0, e1, e2⟩ := box3 H17.out.b0
        obtain ⟨⟨p0, p1, p2⟩, f0, f1, f2⟩ := box3 H17.out.b2
        refine wpAny_ready (rs := [3]) (by kernel_rfl) (by simp) ?_
        refine AllReady.cons rfl (fun K hK => ?_) AllReady.nil
        · go_simp
          refine hK _ _ ?_
          clear hK K
          clear m0 m1 m2 mf0 mf1 mf2 o0 o1 o2 e0 e1 e2 p0 p1 p2 f0 f1 f2
          refine wpAny_done (by kernel_rfl) ?_ _
          generalize ((x1.setCell ⟨W.heap.size + 1, 0, none⟩ (.int .i64 ep)).setCell ⟨W.heap.size + 1, 1, none⟩ (.slice ax nx cx)).setCell ⟨W.heap.size + 1, 2, none⟩ (.slice ay ny cy) = x2 at H18 ⊢
          clear H17
          obtain ⟨⟨p0, p1, p2⟩, _, _, _⟩ := box3 H18.out.b2
          obtain ⟨⟨q0, q1, q2⟩, _, _, _⟩ := box3 H18.out.b3
          have P0 := hidS p0
          have P1 := hidS p1
          have P2 := hidS p2
          have Q0 := hidS q0
          have Q1 := hidS q1
          have Q2 := hidS q2
          clear p0 p1 p2 q0 q1 q2
          go_wp2
          exact bodyPost_ret (v := .tuple #[mv id me (.slice ak nk ck), svv ep (.slice ax nx cx) (.slice ay ny cy)]) (by simp [results, Try.results12, go_sem, P0.out, P1.out, P2.out, Q0.out, Q1.out, Q2.out]) rfl ⟨id, me, ep, ak, nk, ck, bk, ks, ax, nx, cx, ay, ny, cy, bx, by', vs, ss, rfl, HN.out.1, HN.out.2.1, HN.out.2.2.1, HN.out.2.2.2.1, HN.out.2.2.2.2, H18.out.sub (List.nil_sublist _) (.cons_cons _ (.cons _ (.cons_cons _ (.cons_cons _ (List.nil_sublist _)))))⟩
    · go_simp
      refine hK _ _ ?_
      clear hK K
      clear m0 m1 m2 mf0 mf1 mf2 o0 o1 o2 e0 e1 e2 p0 p1 p2 f0 f1 f2
      generalize ((x0.setCell ⟨W.heap.size, 0, none⟩ (.int .i64 id)).setCell ⟨W.heap.size, 1, none⟩ (.int .i64 me)).setCell ⟨W.heap.size, 2, none⟩ (.slice ak nk ck) = x1 at H17 H18 ⊢
      obtain ⟨⟨m0, m1, m2⟩, mf0, mf1, mf2⟩ := box3 H17.out.b1
      obtain ⟨⟨o0, o1, o2⟩, e0, e1, e2⟩ := box3 H17.out.b0
      obtain ⟨⟨p0, p1, p2⟩, f0, f1, f2⟩ := box3 H17.out.b2
      refine wpAny_ready (rs := [1]) (by kernel_rfl) (by simp) ?_
      refine AllReady.cons rfl (fun K hK => ?_) AllReady.nil
      · go_simp
        refine hK _ _ ?_
        clear hK K
        refine wpAny_ready (rs := [3]) (by kernel_rfl) (by simp) ?_
        refine AllReady.cons rfl (fun K hK => ?_) AllReady.nil
        · go_simp
          refine hK _ _ ?_
          clear hK K
          clear m0 m1 m2 mf0 mf1 mf2 o0 o1 o2 e0 e1 e2 p0 p1 p2 f0 f1 f2
          refine wpAny_done (by kernel_rfl) ?_ _
          generalize ((x1.setCell ⟨W.heap.size + 1, 0, none⟩ (.int .i64 ep)).setCell ⟨W.heap.size + 1, 1, none⟩ (.slice ax nx cx)).setCell ⟨W.heap.size + 1, 2, none⟩ (.slice ay ny cy) = x2 at H18 ⊢
          clear H17
          obtain ⟨⟨p0, p1, p2⟩, _, _, _⟩ := box3 H18.out.b2
          obtain ⟨⟨q0, q1, q2⟩, _, _, _⟩ := box3 H18.out.b3
          have P0 := hidS p0
          have P1 := hidS p1
          have P2 := hidS p2
          have Q0 := hidS q0
          have Q1 := hidS q1
          have Q2 := hidS q2
          clear p0 p1 p2 q0 q1 q2
          go_wp2
          exact bodyPost_ret (v := .tuple #[mv id me (.slice ak nk ck), svv ep (.slice ax nx cx) (.slice ay ny cy)]) (by simp [results, Try.results12, go_sem, P0.out, P1.out, P2.out, Q0.out, Q1.out, Q2.out]) rfl ⟨id, me, ep, ak, nk, ck, bk, ks, ax, nx, cx, ay, ny, cy, bx, by', vs, ss, rfl, HN.out.1, HN.out.2.1, HN.out.2.2.1, HN.out.2.2.2.1, HN.out.2.2.2.2, H18.out.sub (List.nil_sublist _) (.cons_cons _ (.cons _ (.cons_cons _ (.cons_cons _ (List.nil_sublist _)))))⟩
  · go_simp
    refine hK _ _ ?_
    clear hK K
    refine wpAny_ready (rs := [0]) (by kernel_rfl) (by simp) ?_
    refine AllReady.cons rfl (fun K hK => ?_) AllReady.nil
    · go_simp
      refine hK _ _ ?_
      clear hK K
      refine wpAny_ready (rs := [2]) (by kernel_rfl) (by simp) ?_
      refine AllReady.cons rfl (fun K hK => ?_) AllReady.nil
      · go_simp
        refine hK _ _ ?_
        clear hK K
        clear m0 m1 m2 mf0 mf1 mf2 o0 o1 o2 e0 e1 e2 p0 p1 p2 f0 f1 f2
        generalize ((x0.setCell ⟨W.heap.size, 0, none⟩ (.int .i64 id)).setCell ⟨W.heap.size, 1, none⟩ (.int .i64 me)).setCell ⟨W.heap.size, 2, none⟩ (.slice ak nk ck) = x1 at H17 H18 ⊢
        obtain ⟨⟨m0, m1, m2⟩, mf0, mf1, mf2⟩ := box3 H17.out.b1
        obtain ⟨⟨o0, o1, o2⟩, e0, e1, e2⟩ := box3 H17.out.b0
        obtain ⟨⟨p0, p1, p2⟩, f0, f1, f2⟩ := box3 H17.out.b2
        refine wpAny_ready (rs := [3]) (by kernel_rfl) (by simp) ?_
        refine AllReady.cons rfl (fun K hK => ?_) AllReady.nil
        · go_simp
          refine hK _ _ ?_
          clear hK K
          clear m0 m1 m2 mf0 mf1 mf2 o0 o1 o2 e0 e1 e2 p0 p1 p2 f0 f1 f2
          refine wpAny_done (by kernel_rfl) ?_ _
          generalize ((x1.setCell ⟨W.heap.size + 1, 0, none⟩ (.int .i64 ep)).setCell ⟨W.heap.size + 1, 1, none⟩ (.slice ax nx cx)).setCell ⟨W.heap.size + 1, 2, none⟩ (.slice ay ny cy) = x2 at H18 ⊢
          clear H17
          obtain ⟨⟨p0, p1, p2⟩, _, _, _⟩ := box3 H18.out.b2
          obtain ⟨⟨q0, q1, q2⟩, _, _, _⟩ := box3 H18.out.b3
          have P0 := hidS p0
          have P1 := hidS p1
          have P2 := hidS p2
          have Q0 := hidS q0
          have Q1 := hidS q1
          have Q2 := hidS q2
          clear p0 p1 p2 q0 q1 q2
          go_wp2
          exact bodyPost_ret (v := .tuple #[mv id me (.slice ak nk ck), svv ep (.slice ax nx cx) (.slice ay ny cy)]) (by simp [results, Try.results12, go_sem, P0.out, P1.out, P2.out, Q0.out, Q1.out, Q2.out]) rfl ⟨id, me, ep, ak, nk, ck, bk, ks, ax, nx, cx, ay, ny, cy, bx, by', vs, ss, rfl, HN.out.1, HN.out.2.1, HN.out.2.2.1, HN.out.2.2.2.1, HN.out.2.2.2.2, H18.out.sub (List.nil_sublist _) (.cons_cons _ (.cons _ (.cons_cons _ (.cons_cons _ (List.nil_sublist _)))))⟩
end Go.Proofs.Ytjilbfohfgalkaa
/- MembersOf of the program. -/
namespace Go.Proofs.Ytjilbfohfgalkaa
open Go.RowKit

def membersL (ep : Int) (vs : List Int) (ss : List (Int × Int)) : List Int := if serverB ep vs ss = true then ss.map Prod.fst else []
theorem take_map_succ (ss : List (Int × Int)) (k : Nat) (h : k < ss.length) : (ss.take (k + 1)).map Prod.fst = (ss.take k).map Prod.fst ++ [ss[k].1] := by
  rw [List.take_succ_eq_append_getElem h, List.map_append]; rfl
theorem serverB_seats {ep : Int} {vs : List Int} {ss : List (Int × Int)} (h : serverB ep vs ss = true) : ss.length ≤ 8 := by
  simp [serverB, seatsB] at h
  exact h.2.2.1
theorem none_ints (B : Nat) (w : World) : Ints B (.slice none 0 0) [] w := ⟨by simp, .inl ⟨rfl, rfl⟩⟩

end Go.Proofs.Ytjilbfohfgalkaa
/- KeyAt of the program and of the model. -/
namespace Go.Proofs.Ytjilbfohfgalkaa
open Go.RowKit

end Go.Proofs.Ytjilbfohfgalkaa
/- What the drawn law of KeysFor asks of the keys: facts on lists. -/
namespace Go.Proofs.Ytjilbfohfgalkaa
open Go.RowKit

theorem kf_has (ep : Int) (vs : List Int) (ss : List (Int × Int)) (m : Int) : decide (m ∈ membersL ep vs ss) = kfB ep vs ss m := by
  unfold membersL kfB
  cases h : serverB ep vs ss with
  | false => simp
  | true =>
    rw [if_pos rfl, Bool.true_and]
    unfold seatOf
    rw [Option.isSome_map, Bool.eq_iff_iff, decide_eq_true_iff, List.find?_isSome]
    simp
theorem path_is {l : Int} (h : 8 ≤ l ∧ l ≤ 15) : path l = [l, l / 2, l / 4, 1] := by
  have : l = 8 ∨ l = 9 ∨ l = 10 ∨ l = 11 ∨ l = 12 ∨ l = 13 ∨ l = 14 ∨ l = 15 := by omega
  rcases this with rfl | rfl | rfl | rfl | rfl | rfl | rfl | rfl <;> decide
/-- The four keys of a member that has a seat. -/
theorem kf_four {ep : Int} {vs : List Int} {ss : List (Int × Int)} {m : Int} (h : kfB ep vs ss m = true) :
    serverB ep vs ss = true ∧ ∃ a b c : Int, kfL ep vs ss m = [(1, vAt vs 0), (a, vAt vs (a - 1).toNat), (b, vAt vs (b - 1).toNat), (c, vAt vs (c - 1).toNat)] ∧ 1 < a ∧ a < b ∧ b < c ∧ c ≤ 15 ∧ path c = [c, b, a, 1] := by
  have h0 := h
  unfold kfB at h
  simp only [Bool.and_eq_true] at h
  obtain ⟨l, hl⟩ := Option.isSome_iff_exists.1 h.2
  have hr := seatOf_leaf h.1 hl
  have e : leafV ss m = l := by unfold leafV; rw [hl]; rfl
  have hp := path_is hr
  refine ⟨h.1, l / 4, l / 2, l, ?_, by omega, by omega, by omega, by omega, hp⟩
  unfold kfL keysOn
  rw [if_pos h0, e, hp]
  have e1 : (l / 4 - 1).toNat = (l / 4).toNat - 1 := by omega
  have e2 : (l / 2 - 1).toNat = (l / 2).toNat - 1 := by omega
  have e3 : (l - 1).toNat = l.toNat - 1 := by omega
  simp [e1, e2, e3]
theorem at_right {ep : Int} {vs : List Int} {ss : List (Int × Int)} {n : Int} (h : serverB ep vs ss = true) (hn : 1 ≤ n ∧ n ≤ 15) : atK ep vs ss n = (n, vAt vs (n - 1).toNat) ∧ atB ep vs ss n = true := by
  simp [atK, atB, h, hn]
theorem four_known {ep : Int} {vs : List Int} {ss : List (Int × Int)} {a b c : Int} (h : serverB ep vs ss = true) (h1 : 1 < a) (h2 : a < b) (h3 : b < c) (h4 : c ≤ 15) :
    knownB [(1, vAt vs 0), (a, vAt vs (a - 1).toNat), (b, vAt vs (b - 1).toNat), (c, vAt vs (c - 1).toNat)] = true ∧ nodesTo [(1, vAt vs 0), (a, vAt vs (a - 1).toNat), (b, vAt vs (b - 1).toNat), (c, vAt vs (c - 1).toNat)] 4 = true := by
  have hv : versB vs = true := by
    simp only [serverB, Bool.and_eq_true] at h
    exact h.2.1
  obtain ⟨_, hv⟩ := versB_iff.1 hv
  have v0 := hv 0 (by omega)
  have v1 := hv (a - 1).toNat (by omega)
  have v2 := hv (b - 1).toNat (by omega)
  have v3 := hv (c - 1).toNat (by omega)
  generalize vAt vs 0 = y0 at *
  generalize vAt vs (a - 1).toNat = y1 at *
  generalize vAt vs (b - 1).toNat = y2 at *
  generalize vAt vs (c - 1).toNat = y3 at *
  constructor
  · simp only [knownB, allTo, List.length_cons, List.length_nil, Bool.and_eq_true, decide_eq_true_eq]
    refine ⟨by omega, ?_⟩
    simp only [List.all_eq_true, List.mem_range]
    intro i hi
    have : i = 0 ∨ i = 1 ∨ i = 2 ∨ i = 3 := by omega
    rcases this with rfl | rfl | rfl | rfl <;> simp [okAt, kAt, okK, aheadB] <;> omega
  · simp only [nodesTo, List.all_eq_true, List.mem_range]
    intro i hi
    have : i = 0 ∨ i = 1 ∨ i = 2 ∨ i = 3 := by omega
    rcases this with rfl | rfl | rfl | rfl <;> simp [nodeAt, kAt] <;> omega
end Go.Proofs.Ytjilbfohfgalkaa
/- sameKeys of the laws, of two lists that are the same. -/
namespace Go.Proofs.Ytjilbfohfgalkaa
open Go.RowKit

set_option maxHeartbeats 1000000 in
theorem sameKeys_self {B C : Nat} {u v : Value} {xs : List (Int × Int)} {w : World} (hx : Keys B u xs w) (hy : Keys C v xs w) :
    Calls Try.prog 16 #[u, v] w fun e w' => e = .returned (.bool true) ∧ Below w.heap.size w w' := by
  obtain ⟨a, c, rfl, hm, hrow⟩ := hx.row
  obtain ⟨a', c', rfl, _, hrow'⟩ := hy.row
  clear hx hy
  unfold maxLen at hm
  have HR : Hid (KRow a xs w) := hrow
  have HR' : Hid (KRow a' xs w) := hrow'
  clear hrow hrow'
  generalize hn : xs.length = n at hm ⊢
  go_enter Try.func16, Try.ntmps16
  go_wp2
  go_loopw [5] (fun i wr => ∃ k : Nat, k ≤ n ∧ i = .int .i64 k ∧ ∃ q, wr = w.drewN q) (fun i _ => n - (intOf i).toNat)
  case atStart => exact ⟨0, Nat.zero_le _, rfl, 0, rfl⟩
  case round =>
    obtain ⟨k, hk, rfl, q, rfl⟩ := hrel
    by_cases hlt : k < n
    · have hlk : k < xs.length := by omega
      obtain ⟨g, ha, hg, hseg⟩ : ∃ g, a = some ⟨g, 0, none⟩ ∧ g < w.heap.size ∧ KSeg g 0 xs w := by
        rcases HR.out with e | e
        · rw [e] at hlk; simp at hlk
        · exact e
      obtain ⟨g', ha', hg', hseg'⟩ : ∃ g, a' = some ⟨g, 0, none⟩ ∧ g < w.heap.size ∧ KSeg g 0 xs w := by
        rcases HR'.out with e | e
        · rw [e] at hlk; simp at hlk
        · exact e
      subst ha ha'
      obtain ⟨c1, c2⟩ := hseg k hlk
      obtain ⟨d1, d2⟩ := hseg' k hlk
      simp only [Nat.zero_add] at c1 c2 d1 d2
      clear hseg hseg'
      generalize xs[k].1 = p at *
      generalize xs[k].2 = r at *
      go_wp2
      go_quiet (fail)
      go_wp2
      go_roundw
      case rel => exact ⟨k + 1, by omega, by go_num, q + nq, by simp⟩
      case measure => simp [intOf]; omega
    · go_wp2
      go_ret
      exact ⟨rfl, below_drewN' (Below.refl _ _) _⟩
end Go.Proofs.Ytjilbfohfgalkaa
/- laws.sameMember of two members that are the same. -/
namespace Go.Proofs.Ytjilbfohfgalkaa
open Go.RowKit

set_option maxHeartbeats 1000000 in
theorem sameMember_self {B C : Nat} {u v : Value} {xs : List (Int × Int)} {w : World} (id ep : Int) (hx : Keys B u xs w) (hy : Keys C v xs w) :
    Calls Try.prog 9 #[mv id ep u, mv id ep v] w fun e w' => e = .returned (.bool true) ∧ Below w.heap.size w w' := by
  have hB := two_below w (mb id ep u) (mb id ep v)
  obtain ⟨c0, c1, c2⟩ := cell3 w id ep u
  have d0 := cell_since c0 (one_below _ (mb id ep v))
  have d1 := cell_since c1 (one_below _ (mb id ep v))
  have d2 := cell_since c2 (one_below _ (mb id ep v))
  obtain ⟨e0, e1, e2⟩ := cell3 (w.alloc (mb id ep u)) id ep v
  have hs : (w.alloc (mb id ep u)).heap.size = w.heap.size + 1 := by simp
  rw [hs] at e0 e1 e2
  have X := hidOf' (keys_since hx hB)
  have Y := hidOf' (keys_since hy hB)
  have BB := hidOf' hB
  clear hx hy hB c0 c1 c2 hs
  go_enter Try.func9, Try.ntmps9
  go_wp2_with fail
  generalize (w.alloc (mb id ep u)).alloc (mb id ep v) = w2 at *
  refine (sameKeys_self X.out Y.out).mono ?_
  rintro e w3 ⟨rfl, b3⟩
  have BB3 := hidOf' (more BB.out b3)
  clear X Y BB d0 d1 d2 e0 e1 e2
  go_wp2
  go_ret
  exact ⟨rfl, BB3.out⟩
end Go.Proofs.Ytjilbfohfgalkaa
/- Copies of keys and of members: copied, ownMember of the program, l4Copy of the model. -/
namespace Go.Proofs.Ytjilbfohfgalkaa
open Go.RowKit

theorem hidC {p : Prop} (h : p) : Hid p := h
theorem noKeys (B : Nat) (w : World) : Keys B (.slice none 0 0) [] w := ⟨by simp [kcells], .inl ⟨rfl, rfl⟩⟩
theorem keysSince {B : Nat} {v : Value} {ks : List (Int × Int)} {W W' : World} (h : Keys B v ks W) (hb : Below W.heap.size W W') : Keys B v ks W' := h.below hb (fun k e => (h.lt k e).2)

/-- Keys with keys appended. -/
theorem wpList_append_keysK {w : World} {ops : Array Oper} {rest : List Oper} {o : Oper} {a : Act} {Q : Exit → Act → World → Prop} (hgd : o.guard = none) (s x : Operand)
    (ho : o.op = .call { callee := .builtin .append, args := #[s, x], argTypes := #[24, 24] })
    (base C : Nat) (v xv : Value) (ls ks : List (Int × Int)) (hs : a.eval s = v) (hown : Keys base v ls w) (hx : a.eval x = xv) (hk : Keys C xv ks w) (hm : ls.length + ks.length ≤ 1000000) (hbase : base ≤ w.heap.size)
    (h : ∀ a' c' w', Keys base (.slice a' (ls.length + ks.length) c') (ls ++ ks) w' → w.grownBy w' v.ownBlock → wpList Try.prog ops Q rest (a.put o.dst (.slice a' (ls.length + ks.length) c')) w') : wpList Try.prog ops Q (o :: rest) a w := by
  obtain ⟨i0, hi, hz0, hz1, hz2⟩ := info_parts infoK
  rcases hk.form with ⟨rfl, rfl⟩ | ⟨g, c, rfl, _, hg, hc, _, hseg, _⟩
  · refine wpList_append_own_none hgd s x _ ho base 36 i0 2 Try.underlying24 hi v _ _ hs hown hx ?_
    obtain ⟨a', c', hv, _, _⟩ := hown.row
    have := h a' c' w (by simpa [← hv] using hown) (World.grownBy.refl _ _)
    simpa [hv] using this
  · refine wpList_append_own w hgd s x _ ho base 36 i0 (.agg #[.int .i64 0, .int .i64 0]) 2 16 Try.underlying24 hi hz0 hz1 hz2 rfl (by decide) v _ _ hs hown ⟨g, 0, none⟩ ks.length c (kcells ks) hx (kcells_length _) (news_keys hseg) (one_kcells _) (by unfold maxLen; omega) (by omega) hbase ?_
    intro v' w' h1 h2 _
    have hK : Keys base v' (ls ++ ks) w' := by
      unfold Keys
      rw [List.length_append, kcells_append]
      exact h1
    obtain ⟨a', c', hv, _, _⟩ := hK.row
    rw [List.length_append] at hv
    subst hv
    exact h a' c' w' hK h2

set_option maxRecDepth 100000 in
theorem copiedK_any {B : Nat} {v : Value} {ks : List (Int × Int)} {w : World} (h : Keys B v ks w) (hl : ks.length ≤ 100000) :
    Calls Try.prog 46 #[v] w fun e w' => ∃ a c, e = .returned (.slice a ks.length c) ∧ Keys w.heap.size (.slice a ks.length c) ks w' ∧ Below w.heap.size w w' := by
  obtain ⟨a, c, hv, _, _⟩ := h.row
  subst hv
  have HK := hidC h
  clear h
  generalize hn : ks.length = n at *
  go_enter Try.func46, Try.ntmps46
  go_wp2_with (at_builtin; refine wpList_append_keysK rfl _ _ rfl w.heap.size B (.slice none 0 0) _ [] ks rfl (noKeys _ _) rfl HK.out (by simp; omega) (Nat.le_refl _) ?_; intro a1 c1 w1 own1 gr1; simp only [List.length_nil, Nat.zero_add, List.nil_append, hn] at own1 ⊢)
  go_ret
  exact ⟨a1, c1, rfl, own1, (Below.refl _ w).grown gr1 (Nat.le_refl _) (fun j e => by cases e)⟩
end Go.Proofs.Ytjilbfohfgalkaa
/- Copies of members: ownMember of the program, l4Copy of the model. -/
namespace Go.Proofs.Ytjilbfohfgalkaa
open Go.RowKit

theorem laterM {w W W' : World} {p1 p2 p3 : Addr} {v1 v2 v3 : Value} (h : W.cell? p1 = some v1 ∧ W.cell? p2 = some v2 ∧ W.cell? p3 = some v3 ∧ Below w.heap.size w W) (hb : Below W.heap.size W W') :
    W'.cell? p1 = some v1 ∧ W'.cell? p2 = some v2 ∧ W'.cell? p3 = some v3 ∧ Below w.heap.size w W' := ⟨cell_since h.1 hb, cell_since h.2.1 hb, cell_since h.2.2.1 hb, h.2.2.2.trans (hb.mono h.2.2.2.size)⟩

theorem emptyC (W : World) {S : Nat} (h : W.heap.size = S) : Keys S (.slice (some ⟨S, 0, none⟩) 0 0) [] (W.alloc (.cells #[] 36)) := by
  subst h
  exact World.ownsRow_lit (base := W.heap.size) (size := 2) W #[] 0 (Nat.le_refl _) (by decide) rfl
theorem blkC {W W' : World} {o x : Obj} {R : Nat} {row : Option Nat} (hg : (W.alloc o).grownBy W' row) (h : W.heap[R]? = some x) (hne : row ≠ some R) : W'.heap[R]? = some x := by
  have hl := (Array.getElem?_eq_some_iff.1 h).1
  rw [hg.block R (by simp; omega) (fun e => hne e.symm), Below.heap_alloc _ _ _ hl]
  exact h

set_option maxRecDepth 100000 in
set_option maxHeartbeats 1000000 in
theorem ownMember_any {B : Nat} {v : Value} {ks : List (Int × Int)} {w : World} (id ep : Int) (h : Keys B v ks w) (hl : ks.length ≤ 100000) :
    Calls Try.prog 21 #[mv id ep v] w fun e w' => ∃ p a c, e = .returned (.pointer (some ⟨p, 0, none⟩)) ∧ w'.heap[p]? = some (mb id ep (.slice a ks.length c)) ∧ Keys w.heap.size (.slice a ks.length c) ks w' ∧ w.heap.size ≤ p ∧ (Value.slice a ks.length c).ownBlock ≠ some p ∧ Below w.heap.size w w' := by
  obtain ⟨a, c, hv, _, _⟩ := h.row
  subst hv
  obtain ⟨c0, c1, c2⟩ := cell3 w id ep (.slice a ks.length c)
  have hB1 := one_below w (mb id ep (.slice a ks.length c))
  have HK := hidC (keysSince (keysSince h hB1) (Below.refl _ _).drew)
  clear h
  generalize hn : ks.length = n at *
  go_enter Try.func21, Try.ntmps21
  go_wp2
  generalize w.alloc (mb id ep (.slice a n c)) = w1 at *
  go_region_held3 (fun W => W.cell? ⟨w.heap.size, 0, none⟩ = some (.int .i64 id) ∧ W.cell? ⟨w.heap.size, 1, none⟩ = some (.int .i64 ep) ∧ W.cell? ⟨w.heap.size, 2, none⟩ = some (.slice a n c) ∧ Below w.heap.size w W)
    (first | exact ⟨c0, c1, c2, hB1.drew⟩ | exact laterM ‹_› b2 | exact laterM ‹_› (one_below _ _) | assumption)
    ((go_at_call 46; refine (copiedK_any HK.out (by omega)).mono ?_; rw [hn]; rintro e w2 ⟨a2, c2', rfl, k2, b2⟩))
  all_goals
    rename_i hHeld
    have hbW := hHeld.2.2.2
    clear hHeld
    have hlt := k2.lt
    have hsz : w.heap.size ≤ w1.heap.size := hB1.size
    have hs2 : w1.heap.size ≤ w2.heap.size := b2.size
    have HF := hidC (heap_alloc_new w2 (mb id ep (.slice a2 n c2')))
    have HKF := hidC (keysSince (k2.mono (show w.heap.size ≤ w1.heap.size from hsz)) (one_below w2 (mb id ep (.slice a2 n c2'))))
    have HBF := hidC hbW
    have HNE := hidC (show (Value.slice a2 n c2').ownBlock ≠ some w2.heap.size from fun e => by have := (hlt _ e).2; omega)
    clear hbW hlt k2 b2 HK c0 c1 c2
    go_wp2
    go_ret
    exact ⟨w2.heap.size, a2, c2', rfl, HF.out, HKF.out, by omega, HNE.out, HBF.out⟩

set_option maxRecDepth 100000 in
set_option maxHeartbeats 1000000 in
theorem l4Copy_any {B : Nat} {v : Value} {ks : List (Int × Int)} {w : World} (id ep : Int) (h : Keys B v ks w) (hl : ks.length ≤ 100000) :
    Calls Try.prog 31 #[mv id ep v] w fun e w' => ∃ a c, e = .returned (mv id ep (.slice a ks.length c)) ∧ Keys w.heap.size (.slice a ks.length c) ks w' ∧ Below w.heap.size w w' := by
  obtain ⟨a, c, hv, _, _⟩ := h.row
  subst hv
  have hB1 := two_below w (mb id ep (.slice a ks.length c)) (mb 0 0 (.slice none 0 0))
  have t0 : ((w.alloc (mb id ep (.slice a ks.length c))).alloc (mb 0 0 (.slice none 0 0))).heap[w.heap.size]? = some (mb id ep (.slice a ks.length c)) := by
    rw [Below.heap_alloc _ _ _ (by simp)]
    exact heap_alloc_new _ _
  have t1 : ((w.alloc (mb id ep (.slice a ks.length c))).alloc (mb 0 0 (.slice none 0 0))).heap[w.heap.size + 1]? = some (mb 0 0 (.slice none 0 0)) := by
    have := heap_alloc_new (w.alloc (mb id ep (.slice a ks.length c))) (mb 0 0 (.slice none 0 0))
    simpa using this
  have hs1 : ((w.alloc (mb id ep (.slice a ks.length c))).alloc (mb 0 0 (.slice none 0 0))).heap.size = w.heap.size + 1 + 1 := by simp
  have HK := hidC (keysSince (keysSince h hB1) (one_below _ (.cells #[] 36)))
  have HE := hidC (emptyC ((w.alloc (mb id ep (.slice a ks.length c))).alloc (mb 0 0 (.slice none 0 0))) hs1)
  clear h
  generalize hn : ks.length = n at *
  go_enter Try.func31, Try.ntmps31
  go_wp2_with (at_builtin; refine wpList_append_keysK rfl _ _ rfl (w.heap.size + 1 + 1) B (.slice (some ⟨w.heap.size + 1 + 1, 0, none⟩) 0 0) _ [] ks rfl HE.out rfl HK.out (by simp; omega) (by simp) ?_; intro a1 c1 w2 own1 gr1; simp only [List.length_nil, Nat.zero_add, List.nil_append, hn] at own1 ⊢; have s0 := blkC gr1 t0 (fun e => by have := Option.some.inj (show some (w.heap.size + 1 + 1) = some _ from e); omega); have s1 := blkC gr1 t1 (fun e => by have := Option.some.inj (show some (w.heap.size + 1 + 1) = some _ from e); omega); obtain ⟨⟨p0, p1, p2⟩, f0, f1, f2⟩ := box3 s0; obtain ⟨⟨q0, q1, q2⟩, g0, g1, g2⟩ := box3 s1)
  have hB2 : Below w.heap.size w w2 := (hB1.alloc hB1.size _).grown gr1 (by simp <;> omega) (fun j e => by have := Option.some.inj (show some (w.heap.size + 1 + 1) = some _ from e); omega)
  have hlt := own1.lt
  have bF := box3_set2 (box3_set1 (box3_set0 (blk' (k := w.heap.size + 1) (grown_set w2 w.heap.size 2 (.slice a1 n c1)) s1 (by omega)) (.int .i64 id)) (.int .i64 ep)) (.slice a1 n c1)
  have gK := ((((own1.mono (show w.heap.size ≤ w.heap.size + 1 + 1 by omega)).kept (grown_set w2 w.heap.size 2 (.slice a1 n c1)) (fun k e e' => by cases e; have := (hlt _ e').1; omega)).kept (grown_set _ (w.heap.size + 1) 0 (.int .i64 id)) (fun k e e' => by cases e; have := (hlt _ e').1; omega)).kept (grown_set _ (w.heap.size + 1) 1 (.int .i64 ep)) (fun k e e' => by cases e; have := (hlt _ e').1; omega)).kept (grown_set _ (w.heap.size + 1) 2 (.slice a1 n c1)) (fun k e e' => by cases e; have := (hlt _ e').1; omega)
  have gB : Below w.heap.size w ((((w2.setCell ⟨w.heap.size, 2, none⟩ (.slice a1 n c1)).setCell ⟨w.heap.size + 1, 0, none⟩ (.int .i64 id)).setCell ⟨w.heap.size + 1, 1, none⟩ (.int .i64 ep)).setCell ⟨w.heap.size + 1, 2, none⟩ (.slice a1 n c1)) := (((hB2.setCell (by simp) _).setCell (by simp) _).setCell (by simp) _).setCell (by simp) _
  generalize (((w2.setCell ⟨w.heap.size, 2, none⟩ (.slice a1 n c1)).setCell ⟨w.heap.size + 1, 0, none⟩ (.int .i64 id)).setCell ⟨w.heap.size + 1, 1, none⟩ (.int .i64 ep)).setCell ⟨w.heap.size + 1, 2, none⟩ (.slice a1 n c1) = WF at bF gK gB ⊢
  obtain ⟨⟨z0, z1, z2⟩, _, _, _⟩ := box3 bF
  exact bodyPost_ret (v := mv id ep (.slice a1 n c1)) (by simp [results, Try.results31, go_sem, z0, z1, z2]) rfl ⟨a1, c1, rfl, gK, gB⟩
end Go.Proofs.Ytjilbfohfgalkaa
/- Small lemmas on worlds, members and the bundle's rows of keys. -/
namespace Go.Proofs.Ytjilbfohfgalkaa
open Go.RowKit

theorem three_below (w : World) (o1 o2 o3 : Obj) : Below w.heap.size w (((w.alloc o1).alloc o2).alloc o3) := (two_below w o1 o2).alloc (by simp; omega) o3
theorem memberB_few {id me : Int} {ks : List (Int × Int)} (h : memberB id me ks = true) : ks.length ≤ 200 := by
  unfold memberB headB knownB at h
  simp only [Bool.and_eq_true, decide_eq_true_eq] at h
  exact h.1.2.2.1
theorem later4M {w W W' : World} {p1 p2 p3 p4 : Addr} {v1 v2 v3 v4 : Value} (h : W.cell? p1 = some v1 ∧ W.cell? p2 = some v2 ∧ W.cell? p3 = some v3 ∧ W.cell? p4 = some v4 ∧ Below w.heap.size w W) (hb : Below W.heap.size W W') :
    W'.cell? p1 = some v1 ∧ W'.cell? p2 = some v2 ∧ W'.cell? p3 = some v3 ∧ W'.cell? p4 = some v4 ∧ Below w.heap.size w W' := ⟨cell_since h.1 hb, cell_since h.2.1 hb, cell_since h.2.2.1 hb, cell_since h.2.2.2.1 hb, h.2.2.2.2.trans (hb.mono h.2.2.2.2.size)⟩
theorem grown_any {W W' : World} (h : Below W.heap.size W W') (r : Option Nat) : W.grownBy W' r := ⟨h.os, h.tape, h.output, h.size, fun k hk _ => h.block k hk⟩
theorem grown_d (W : World) (row : Option Nat) : W.grownBy W.drew row := ⟨rfl, rfl, rfl, Nat.le_refl _, fun _ _ _ => rfl⟩
theorem later6 {w W W' : World} {p1 p2 p3 p4 p5 p6 : Addr} {v1 v2 v3 v4 v5 v6 : Value} (h : W.cell? p1 = some v1 ∧ W.cell? p2 = some v2 ∧ W.cell? p3 = some v3 ∧ W.cell? p4 = some v4 ∧ W.cell? p5 = some v5 ∧ W.cell? p6 = some v6 ∧ Below w.heap.size w W) (hb : Below W.heap.size W W') :
    W'.cell? p1 = some v1 ∧ W'.cell? p2 = some v2 ∧ W'.cell? p3 = some v3 ∧ W'.cell? p4 = some v4 ∧ W'.cell? p5 = some v5 ∧ W'.cell? p6 = some v6 ∧ Below w.heap.size w W' :=
  ⟨cell_later2 h.1 hb, cell_later2 h.2.1 hb, cell_later2 h.2.2.1 hb, cell_later2 h.2.2.2.1 hb, cell_later2 h.2.2.2.2.1 hb, cell_later2 h.2.2.2.2.2.1 hb, h.2.2.2.2.2.2.trans (hb.mono h.2.2.2.2.2.2.size)⟩
theorem six {w W : World} {p1 p2 p3 p4 p5 p6 : Addr} {v1 v2 v3 v4 v5 v6 : Value} (h : W.cell? p1 = some v1 ∧ W.cell? p2 = some v2 ∧ W.cell? p3 = some v3 ∧ W.cell? p4 = some v4 ∧ W.cell? p5 = some v5 ∧ W.cell? p6 = some v6 ∧ Below w.heap.size w W) : Below w.heap.size w W := h.2.2.2.2.2.2
theorem keysSet3 {B C p : Nat} {v : Value} {ks : List (Int × Int)} {W : World} (h : Keys B v ks W) (hp : p < B) (hC : C ≤ B) (x y z : Value) : Keys C v ks (((W.setCell ⟨p, 0, none⟩ x).setCell ⟨p, 1, none⟩ y).setCell ⟨p, 2, none⟩ z) := by
  have hne : ∀ k, some p = some k → v.ownBlock ≠ some k := fun k e e' => by
    cases e
    have := (h.lt _ e').1
    omega
  exact (((h.kept (grown_set _ _ _ _) hne).kept (grown_set _ _ _ _) hne).kept (grown_set _ _ _ _) hne).mono hC
abbrev rK (B : Nat) (v : Value) (ks : List (Int × Int)) : RowF := ⟨B, 36, 2, v, ks.length, kcells ks⟩
theorem Kit.k0 {w0 W : World} {cs : List (Addr × Value)} {rs : List RowF} {B : Nat} {v : Value} {ks : List (Int × Int)} (K : Kit w0 cs (rK B v ks :: rs) W) : Keys B v ks W := K.row _ (.head _)
theorem Kit.k1 {w0 W : World} {cs : List (Addr × Value)} {rs : List RowF} {x0 : RowF} {B : Nat} {v : Value} {ks : List (Int × Int)} (K : Kit w0 cs (x0 :: rK B v ks :: rs) W) : Keys B v ks W := K.row _ (.tail _ (.head _))
theorem Kit.k2 {w0 W : World} {cs : List (Addr × Value)} {rs : List RowF} {x0 x1 : RowF} {B : Nat} {v : Value} {ks : List (Int × Int)} (K : Kit w0 cs (x0 :: x1 :: rK B v ks :: rs) W) : Keys B v ks W := K.row _ (.tail _ (.tail _ (.head _)))
theorem Kit.k3 {w0 W : World} {cs : List (Addr × Value)} {rs : List RowF} {x0 x1 x2 : RowF} {B : Nat} {v : Value} {ks : List (Int × Int)} (K : Kit w0 cs (x0 :: x1 :: x2 :: rK B v ks :: rs) W) : Keys B v ks W := K.row _ (.tail _ (.tail _ (.tail _ (.head _))))
theorem Kit.k4 {w0 W : World} {cs : List (Addr × Value)} {rs : List RowF} {x0 x1 x2 x3 : RowF} {B : Nat} {v : Value} {ks : List (Int × Int)} (K : Kit w0 cs (x0 :: x1 :: x2 :: x3 :: rK B v ks :: rs) W) : Keys B v ks W := K.row _ (.tail _ (.tail _ (.tail _ (.tail _ (.head _)))))
theorem Kit.k5 {w0 W : World} {cs : List (Addr × Value)} {rs : List RowF} {x0 x1 x2 x3 x4 : RowF} {B : Nat} {v : Value} {ks : List (Int × Int)} (K : Kit w0 cs (x0 :: x1 :: x2 :: x3 :: x4 :: rK B v ks :: rs) W) : Keys B v ks W := K.row _ (.tail _ (.tail _ (.tail _ (.tail _ (.tail _ (.head _))))))
theorem Kit.k6 {w0 W : World} {cs : List (Addr × Value)} {rs : List RowF} {x0 x1 x2 x3 x4 x5 : RowF} {B : Nat} {v : Value} {ks : List (Int × Int)} (K : Kit w0 cs (x0 :: x1 :: x2 :: x3 :: x4 :: x5 :: rK B v ks :: rs) W) : Keys B v ks W := K.row _ (.tail _ (.tail _ (.tail _ (.tail _ (.tail _ (.tail _ (.head _)))))))
theorem Kit.k7 {w0 W : World} {cs : List (Addr × Value)} {rs : List RowF} {x0 x1 x2 x3 x4 x5 x6 : RowF} {B : Nat} {v : Value} {ks : List (Int × Int)} (K : Kit w0 cs (x0 :: x1 :: x2 :: x3 :: x4 :: x5 :: x6 :: rK B v ks :: rs) W) : Keys B v ks W := K.row _ (.tail _ (.tail _ (.tail _ (.tail _ (.tail _ (.tail _ (.tail _ (.head _))))))))
theorem Kit.k8 {w0 W : World} {cs : List (Addr × Value)} {rs : List RowF} {x0 x1 x2 x3 x4 x5 x6 x7 : RowF} {B : Nat} {v : Value} {ks : List (Int × Int)} (K : Kit w0 cs (x0 :: x1 :: x2 :: x3 :: x4 :: x5 :: x6 :: x7 :: rK B v ks :: rs) W) : Keys B v ks W := K.row _ (.tail _ (.tail _ (.tail _ (.tail _ (.tail _ (.tail _ (.tail _ (.tail _ (.head _)))))))))
end Go.Proofs.Ytjilbfohfgalkaa
/- catchUp of the program: a server's member takes the server's epoch and its keys; else nothing turns. -/
namespace Go.Proofs.Ytjilbfohfgalkaa
open Go.RowKit

/-- The code of a member that catches up. -/
def cuC (ep : Int) (vs : List Int) (ss : List (Int × Int)) (id : Int) : Int := if serverB ep vs ss = true then (if (seatOf ss id).isSome = true then 0 else 5) else 2
set_option maxRecDepth 100000 in
set_option maxHeartbeats 2000000 in
theorem catchUp_any {B C p : Nat} {x y v : Value} {vs : List Int} {ss : List (Int × Int)} {w : World} (id me ep : Int) (hp : w.heap[p]? = some (mb id me v)) (hx : Ints B x vs w) (hy : Seats C y ss w) :
    Calls Try.prog 29 #[.pointer (some ⟨p, 0, none⟩), svv ep x y] w fun e w' => e = .returned (.int .i64 (cuC ep vs ss id)) ∧ ((cuC ep vs ss id ≠ 0 ∧ Below w.heap.size w w') ∨ (cuC ep vs ss id = 0 ∧ ∃ a c, w'.heap[p]? = some (mb id ep (.slice a (kfL ep vs ss id).length c)) ∧ Keys w.heap.size (.slice a (kfL ep vs ss id).length c) (kfL ep vs ss id) w' ∧ w.grownBy w' (some p))) := by
  have hpl : p < w.heap.size := (Array.getElem?_eq_some_iff.1 hp).1
  have hB1 := one_below w (svb ep x y)
  obtain ⟨c0, c1, c2⟩ := scell3 w ep x y
  have hp1 := (hB1.block p hpl).trans hp
  have X1 := hidC (hx.since hB1)
  have Y1 := hidC (hy.since hB1)
  clear hx hy
  go_enter Try.func29, Try.ntmps29
  go_wp2_with fail
  generalize w.alloc (svb ep x y) = w1 at *
  refine (serverOk_any ep X1.out Y1.out).mono ?_
  rintro e w2 ⟨rfl, b2⟩
  have B2 := hidC (more hB1 b2)
  have hp2 := (b2.block p (by have := hB1.size; omega)).trans hp1
  have d0 := cell_since c0 b2
  have d1 := cell_since c1 b2
  have d2 := cell_since c2 b2
  have X2 := hidC ((X1.out.since b2).since (Below.refl _ _).drew)
  have Y2 := hidC ((Y1.out.since b2).since (Below.refl _ _).drew)
  clear c0 c1 c2 X1 Y1 hB1 b2 hp hp1
  cases hok : serverB ep vs ss with
  | false =>
    have HC := hidC (show cuC ep vs ss id = 2 by simp [cuC, hok])
    go_wp2
    go_ret
    exact ⟨by simp [HC.out], .inl ⟨by rw [HC.out]; decide, B2.out⟩⟩
  | true =>
    obtain ⟨⟨q0, q1, q2⟩, f0, f1, f2⟩ := box3 hp2
    have HP2 := hidC hp2
    clear hp2
    go_wp2
    go_region_held3 (fun W => W.cell? ⟨p, 0, none⟩ = some (.int .i64 id) ∧ W.cell? ⟨w.heap.size, 0, none⟩ = some (.int .i64 ep) ∧ W.cell? ⟨w.heap.size, 1, none⟩ = some x ∧ W.cell? ⟨w.heap.size, 2, none⟩ = some y ∧ Below w2.heap.size w2 W)
      (first | exact ⟨q0, d0, d1, d2, (Below.refl _ _).drew⟩ | exact later4M ‹_› b3 | assumption)
      ((go_at_call 15; refine (keysFor_any ep id X2.out Y2.out).mono ?_; rintro e w3 ⟨a3, c3, rfl, k3, b3⟩))
    all_goals
      rename_i hHeld
      obtain ⟨r0, r1, r2, r3, hbW⟩ := hHeld
      have b3' : Below w2.heap.size w2 w3 := hbW
      have hp3 := (b3'.block p (by have := B2.out.size; omega)).trans HP2.out
      have B3 := hidC (more B2.out b3')
      have hs3 := B3.out.size
      clear q0 q1 q2 f0 f1 f2 d0 d1 d2 X2 Y2 HP2 hbW
      obtain ⟨⟨q0, q1, q2⟩, f0, f1, f2⟩ := box3 hp3
      cases hse : (seatOf ss id).isSome with
      | false =>
        have HC := hidC (show cuC ep vs ss id = 5 by simp [cuC, hok, hse])
        have hkf : kfB ep vs ss id = false := by simp [kfB, hse]
        rw [hkf]
        go_wp2
        go_ret
        exact ⟨by simp [HC.out], .inl ⟨by rw [HC.out]; decide, B3.out⟩⟩
      | true =>
        have HC := hidC (show cuC ep vs ss id = 0 by simp [cuC, hok, hse])
        have hkf : kfB ep vs ss id = true := by simp [kfB, hok, hse]
        rw [hkf]
        have hlt := k3.lt
        have hwl : w.heap.size ≤ w2.heap.size := B2.out.size
        generalize hL : kfL ep vs ss id = L at *
        have HK3 := hidC (k3.mono (show w.heap.size ≤ w2.drew.heap.size from hwl))
        have HP3 := hidC hp3
        have HLt := hidC (show ∀ j, (Value.slice a3 L.length c3).ownBlock = some j → w2.heap.size ≤ j from fun j e => (hlt j e).1)
        clear k3 hp3 hlt b3 b3'
        go_wp2
        go_region
        all_goals
          have HF := hidC (show ((w3.setCell ⟨p, 2, none⟩ (.slice a3 L.length c3)).setCell ⟨p, 1, none⟩ (.int .i64 ep)).drew.heap[p]? = some (mb id ep (.slice a3 L.length c3)) from box3_set1 (box3_set2 HP3.out _) _)
          have HKF := hidC (show Keys w.heap.size (.slice a3 L.length c3) L ((w3.setCell ⟨p, 2, none⟩ (.slice a3 L.length c3)).setCell ⟨p, 1, none⟩ (.int .i64 ep)).drew from ((HK3.out.kept (grown_set w3 p 2 _) (fun k e e' => by cases e; have := HLt.out _ e'; omega)).kept (grown_set _ p 1 _) (fun k e e' => by cases e; have := HLt.out _ e'; omega)).kept (grown_d _ none) (fun k e => by cases e))
          have HGF := hidC (show w.grownBy ((w3.setCell ⟨p, 2, none⟩ (.slice a3 L.length c3)).setCell ⟨p, 1, none⟩ (.int .i64 ep)).drew (some p) from (((grown_any B3.out (some p)).trans (grown_set w3 p 2 _)).trans (grown_set _ p 1 _)).trans (grown_d _ _))
          generalize ((w3.setCell ⟨p, 2, none⟩ (.slice a3 L.length c3)).setCell ⟨p, 1, none⟩ (.int .i64 ep)).drew = WF at HF HKF HGF ⊢
          clear q0 q1 q2 f0 f1 f2 r0 r1 r2 r3
          go_wp2
          go_ret
          refine ⟨by simp [HC.out], .inr ⟨HC.out, a3, c3, ?_⟩⟩
          rw [hL]
          exact ⟨HF.out, HKF.out, HGF.out⟩
end Go.Proofs.Ytjilbfohfgalkaa
/- CaughtUp of the program and of the model: both answer the same member and code. -/
namespace Go.Proofs.Ytjilbfohfgalkaa
open Go.RowKit

def cuI (id me : Int) (ks : List (Int × Int)) : Int := if memberB id me ks = true then id else 0
def cuE (id me : Int) (ks : List (Int × Int)) (ep : Int) (vs : List Int) (ss : List (Int × Int)) : Int := if memberB id me ks = true then (if cuC ep vs ss id = 0 then ep else me) else 0
def cuK (id me : Int) (ks : List (Int × Int)) (ep : Int) (vs : List Int) (ss : List (Int × Int)) : List (Int × Int) := if memberB id me ks = true then (if cuC ep vs ss id = 0 then kfL ep vs ss id else ks) else []
def cuR (id me : Int) (ks : List (Int × Int)) (ep : Int) (vs : List Int) (ss : List (Int × Int)) : Int := if memberB id me ks = true then cuC ep vs ss id else 1
/-- What a member that catches up becomes, all four. -/
def CuIs (id me : Int) (ks : List (Int × Int)) (ep : Int) (vs : List Int) (ss : List (Int × Int)) (i e : Int) (l : List (Int × Int)) (r : Int) : Prop := cuI id me ks = i ∧ cuE id me ks ep vs ss = e ∧ cuK id me ks ep vs ss = l ∧ cuR id me ks ep vs ss = r
theorem CuIs.no {id me : Int} {ks : List (Int × Int)} {ep : Int} {vs : List Int} {ss : List (Int × Int)} (h : memberB id me ks = false) : CuIs id me ks ep vs ss 0 0 [] 1 := by simp [CuIs, cuI, cuE, cuK, cuR, h]
theorem CuIs.same {id me : Int} {ks : List (Int × Int)} {ep : Int} {vs : List Int} {ss : List (Int × Int)} (h : memberB id me ks = true) (hc : cuC ep vs ss id ≠ 0) : CuIs id me ks ep vs ss id me ks (cuC ep vs ss id) := by simp [CuIs, cuI, cuE, cuK, cuR, h, hc]
theorem CuIs.done {id me : Int} {ks : List (Int × Int)} {ep : Int} {vs : List Int} {ss : List (Int × Int)} (h : memberB id me ks = true) (hc : cuC ep vs ss id = 0) : CuIs id me ks ep vs ss id ep (kfL ep vs ss id) 0 := by simp [CuIs, cuI, cuE, cuK, cuR, h, hc]
set_option maxRecDepth 100000 in
set_option maxHeartbeats 2000000 in
theorem caughtUp_any {B C D : Nat} {x y v : Value} {vs : List Int} {ss ks : List (Int × Int)} {w : World} (id me ep : Int) (h : Keys B v ks w) (hx : Ints C x vs w) (hy : Seats D y ss w) :
    Calls Try.prog 13 #[mv id me v, svv ep x y] w fun e w' => ∃ a c, e = .returned (.tuple #[mv (cuI id me ks) (cuE id me ks ep vs ss) (.slice a (cuK id me ks ep vs ss).length c), .int .i64 (cuR id me ks ep vs ss)]) ∧ Keys w.heap.size (.slice a (cuK id me ks ep vs ss).length c) (cuK id me ks ep vs ss) w' ∧ Below w.heap.size w w' := by
  have hB1 := three_below w (mb id me v) (svb ep x y) (mb 0 0 (.slice none 0 0))
  obtain ⟨m0, m1, m2⟩ := cell3 w id me v
  have m0 := cell_since (cell_since m0 (one_below _ (svb ep x y))) (one_below _ (mb 0 0 (.slice none 0 0)))
  have m1 := cell_since (cell_since m1 (one_below _ (svb ep x y))) (one_below _ (mb 0 0 (.slice none 0 0)))
  have m2 := cell_since (cell_since m2 (one_below _ (svb ep x y))) (one_below _ (mb 0 0 (.slice none 0 0)))
  obtain ⟨s0, s1, s2⟩ := scell3 (w.alloc (mb id me v)) ep x y
  have s0 := cell_since s0 (one_below _ (mb 0 0 (.slice none 0 0)))
  have s1 := cell_since s1 (one_below _ (mb 0 0 (.slice none 0 0)))
  have s2 := cell_since s2 (one_below _ (mb 0 0 (.slice none 0 0)))
  simp only [World.size_alloc] at s0 s1 s2
  have t2 : (((w.alloc (mb id me v)).alloc (svb ep x y)).alloc (mb 0 0 (.slice none 0 0))).heap[w.heap.size + 1 + 1]? = some (mb 0 0 (.slice none 0 0)) := by
    have := heap_alloc_new ((w.alloc (mb id me v)).alloc (svb ep x y)) (mb 0 0 (.slice none 0 0))
    simpa using this
  have hs1 : (((w.alloc (mb id me v)).alloc (svb ep x y)).alloc (mb 0 0 (.slice none 0 0))).heap.size = w.heap.size + 1 + 1 + 1 := by simp
  have K1 := hidC (keysSince h hB1)
  have X1 := hidC (hx.since hB1)
  have Y1 := hidC (hy.since hB1)
  clear h hx hy
  go_enter Try.func13, Try.ntmps13
  go_wp2_with fail
  generalize ((w.alloc (mb id me v)).alloc (svb ep x y)).alloc (mb 0 0 (.slice none 0 0)) = w1 at *
  refine (memberOk_any id me K1.out).mono ?_
  rintro e w2 ⟨rfl, b2⟩
  have B2 := hidC (more hB1 b2)
  have hs2 := b2.size
  have t2 := (b2.block _ (by omega)).trans t2
  have m0 := cell_since m0 b2
  have m1 := cell_since m1 b2
  have m2 := cell_since m2 b2
  have s0 := cell_since s0 b2
  have s1 := cell_since s1 b2
  have s2 := cell_since s2 b2
  have K2 := hidC (keysSince K1.out b2)
  have X2 := hidC (X1.out.since b2)
  have Y2 := hidC (Y1.out.since b2)
  clear K1 X1 Y1 hB1 b2
  cases hok : memberB id me ks with
  | false =>
    obtain ⟨⟨q0, q1, q2⟩, f0, f1, f2⟩ := box3 t2
    have HR := hidC (CuIs.no (ep := ep) (vs := vs) (ss := ss) hok)
    have HF := hidC (box3_set2 (box3_set1 (box3_set0 t2 (.int .i64 0)) (.int .i64 0)) (.slice none 0 0))
    have HB := hidC (show Below w.heap.size w (((w2.setCell ⟨w.heap.size + 1 + 1, 0, none⟩ (.int .i64 0)).setCell ⟨w.heap.size + 1 + 1, 1, none⟩ (.int .i64 0)).setCell ⟨w.heap.size + 1 + 1, 2, none⟩ (.slice none 0 0)) from ((B2.out.setCell (by simp; omega) _).setCell (by simp; omega) _).setCell (by simp; omega) _)
    go_wp2
    have bF := HF.out
    have gB := HB.out
    obtain ⟨r1, r2, r3, r4⟩ := HR.out
    generalize ((w2.setCell ⟨w.heap.size + 1 + 1, 0, none⟩ (.int .i64 0)).setCell ⟨w.heap.size + 1 + 1, 1, none⟩ (.int .i64 0)).setCell ⟨w.heap.size + 1 + 1, 2, none⟩ (.slice none 0 0) = WF at bF gB ⊢
    obtain ⟨⟨z0, z1, z2⟩, _, _, _⟩ := box3 bF
    rw [r1, r2, r3, r4]
    exact bodyPost_ret (v := .tuple #[mv 0 0 (.slice none 0 0), .int .i64 1]) (by simp [results, Try.results13, go_sem, z0, z1, z2]) rfl ⟨none, 0, rfl, noKeys _ _, gB⟩
  | true =>
    have hfew := memberB_few hok
    go_wp2_with fail
    refine (ownMember_any id me K2.out (by omega)).mono ?_
    rintro e w3 ⟨p, a3, c3, rfl, hp, k3, hpw, hne, b3⟩
    have B3 := hidC (more B2.out b3)
    have hs3 := b3.size
    have t3 := (b3.block _ (by omega)).trans t2
    have s0 := cell_since s0 b3
    have s1 := cell_since s1 b3
    have s2 := cell_since s2 b3
    have X3 := hidC (X2.out.since b3)
    have Y3 := hidC (Y2.out.since b3)
    have K3 := hidC k3
    have HNE := hidC hne
    clear b3 k3 hne K2 X2 Y2 B2 t2 m0 m1 m2
    have hpl : p < w3.heap.size := (Array.getElem?_eq_some_iff.1 hp).1
    go_wp2_with fail
    refine (catchUp_any id me ep hp X3.out Y3.out).mono ?_
    rintro e w4 ⟨rfl, hcase⟩
    obtain ⟨E, a4, c4, L, hp4, K4, t4, B4, HR⟩ : ∃ (E : Int) (a4 : Option Addr) (c4 : Nat) (L : List (Int × Int)), w4.heap[p]? = some (mb id E (.slice a4 L.length c4)) ∧ Hid (Keys w2.heap.size (.slice a4 L.length c4) L w4) ∧ w4.heap[w.heap.size + 1 + 1]? = some (mb 0 0 (.slice none 0 0)) ∧ Hid (Below w.heap.size w w4) ∧ Hid (CuIs id me ks ep vs ss id E L (cuC ep vs ss id)) := by
      rcases hcase with ⟨hc, b4⟩ | ⟨hc, a4, c4, hp4, k4, g4⟩
      · exact ⟨me, a3, c3, ks, (b4.block p hpl).trans hp, keysSince K3.out b4, (b4.block _ (by omega)).trans t3, more B3.out b4, CuIs.same hok hc⟩
      · refine ⟨ep, a4, c4, _, hp4, k4.mono hs3, (g4.block _ (by omega) (fun e => by cases e; omega)).trans t3, B3.out.grown g4 B3.out.size (fun k e => by cases e; omega), ?_⟩
        show CuIs _ _ _ _ _ _ _ _ _ _
        rw [hc]
        exact CuIs.done hok hc
    have hlt := K4.out.lt
    clear hcase K3 HNE X3 Y3 s0 s1 s2 B3 t3 hp
    generalize cuC ep vs ss id = cc at *
    obtain ⟨⟨q0, q1, q2⟩, f0, f1, f2⟩ := box3 t4
    obtain ⟨⟨u0, u1, u2⟩, v0, v1, v2⟩ := box3 hp4
    have hsw : w.heap.size + 1 + 1 < w2.heap.size := by omega
    have HF := hidC (box3_set2 (box3_set1 (box3_set0 t4 (.int .i64 id)) (.int .i64 E)) (.slice a4 L.length c4))
    have HB := hidC (show Below w.heap.size w (((w4.setCell ⟨w.heap.size + 1 + 1, 0, none⟩ (.int .i64 id)).setCell ⟨w.heap.size + 1 + 1, 1, none⟩ (.int .i64 E)).setCell ⟨w.heap.size + 1 + 1, 2, none⟩ (.slice a4 L.length c4)) from ((B4.out.setCell (by simp; omega) _).setCell (by simp; omega) _).setCell (by simp; omega) _)
    have HK := hidC (show Keys w.heap.size (.slice a4 L.length c4) L (((w4.setCell ⟨w.heap.size + 1 + 1, 0, none⟩ (.int .i64 id)).setCell ⟨w.heap.size + 1 + 1, 1, none⟩ (.int .i64 E)).setCell ⟨w.heap.size + 1 + 1, 2, none⟩ (.slice a4 L.length c4)) from (((K4.out.mono (show w.heap.size ≤ w2.heap.size by omega)).kept (grown_set w4 (w.heap.size + 1 + 1) 0 _) (fun k e e' => by cases e; have := (hlt _ e').1; omega)).kept (grown_set _ (w.heap.size + 1 + 1) 1 _) (fun k e e' => by cases e; have := (hlt _ e').1; omega)).kept (grown_set _ (w.heap.size + 1 + 1) 2 _) (fun k e e' => by cases e; have := (hlt _ e').1; omega))
    clear hlt K4 B4 t4 hp4
    go_wp2
    have bF := HF.out
    have gB := HB.out
    have gK := HK.out
    obtain ⟨r1, r2, r3, r4⟩ := HR.out
    generalize ((w4.setCell ⟨w.heap.size + 1 + 1, 0, none⟩ (.int .i64 id)).setCell ⟨w.heap.size + 1 + 1, 1, none⟩ (.int .i64 E)).setCell ⟨w.heap.size + 1 + 1, 2, none⟩ (.slice a4 L.length c4) = WF at bF gB gK ⊢
    obtain ⟨⟨z0, z1, z2⟩, _, _, _⟩ := box3 bF
    rw [r1, r2, r3, r4]
    exact bodyPost_ret (v := .tuple #[mv id E (.slice a4 L.length c4), .int .i64 cc]) (by simp [results, Try.results13, go_sem, z0, z1, z2]) rfl ⟨a4, c4, rfl, gK, gB⟩
end Go.Proofs.Ytjilbfohfgalkaa
/- CaughtUp of the model. -/
namespace Go.Proofs.Ytjilbfohfgalkaa
open Go.RowKit

set_option maxRecDepth 100000 in
set_option maxHeartbeats 4000000 in
theorem specCaughtUp_any {B C D : Nat} {x y v : Value} {vs : List Int} {ss ks : List (Int × Int)} {w : World} (id me ep : Int) (h : Keys B v ks w) (hx : Ints C x vs w) (hy : Seats D y ss w) :
    Calls Try.prog 14 #[mv id me v, svv ep x y] w fun e w' => ∃ a c, e = .returned (.tuple #[mv (cuI id me ks) (cuE id me ks ep vs ss) (.slice a (cuK id me ks ep vs ss).length c), .int .i64 (cuR id me ks ep vs ss)]) ∧ Keys w.heap.size (.slice a (cuK id me ks ep vs ss).length c) (cuK id me ks ep vs ss) w' ∧ Below w.heap.size w w' := by
  have hB1 := three_below w (mb id me v) (svb ep x y) (mb 0 0 (.slice none 0 0))
  obtain ⟨m0, m1, m2⟩ := cell3 w id me v
  have m0 := cell_since (cell_since m0 (one_below _ (svb ep x y))) (one_below _ (mb 0 0 (.slice none 0 0)))
  have m1 := cell_since (cell_since m1 (one_below _ (svb ep x y))) (one_below _ (mb 0 0 (.slice none 0 0)))
  have m2 := cell_since (cell_since m2 (one_below _ (svb ep x y))) (one_below _ (mb 0 0 (.slice none 0 0)))
  obtain ⟨s0, s1, s2⟩ := scell3 (w.alloc (mb id me v)) ep x y
  have s0 := cell_since s0 (one_below _ (mb 0 0 (.slice none 0 0)))
  have s1 := cell_since s1 (one_below _ (mb 0 0 (.slice none 0 0)))
  have s2 := cell_since s2 (one_below _ (mb 0 0 (.slice none 0 0)))
  simp only [World.size_alloc] at s0 s1 s2
  have t2 : (((w.alloc (mb id me v)).alloc (svb ep x y)).alloc (mb 0 0 (.slice none 0 0))).heap[w.heap.size + 1 + 1]? = some (mb 0 0 (.slice none 0 0)) := by
    have := heap_alloc_new ((w.alloc (mb id me v)).alloc (svb ep x y)) (mb 0 0 (.slice none 0 0))
    simpa using this
  have hs1 : (((w.alloc (mb id me v)).alloc (svb ep x y)).alloc (mb 0 0 (.slice none 0 0))).heap.size = w.heap.size + 1 + 1 + 1 := by simp
  have K1 := hidC (keysSince h hB1)
  have X1 := hidC (hx.since hB1)
  have Y1 := hidC (hy.since hB1)
  clear h hx hy
  have B1 := hidC hB1
  clear hB1
  go_enter Try.func14, Try.ntmps14
  go_wp2_with fail
  generalize ((w.alloc (mb id me v)).alloc (svb ep x y)).alloc (mb 0 0 (.slice none 0 0)) = w1 at *
  refine (specMemberOk_any id me K1.out).mono ?_
  rintro e w2 ⟨rfl, b2⟩
  have B2 := hidC (more B1.out b2)
  have hs2 := b2.size
  have t2 := (b2.block _ (by omega)).trans t2
  have m0 := cell_since m0 b2
  have m1 := cell_since m1 b2
  have m2 := cell_since m2 b2
  have s0 := cell_since s0 b2
  have s1 := cell_since s1 b2
  have s2 := cell_since s2 b2
  have K2 := hidC (keysSince K1.out b2)
  have X2 := hidC (X1.out.since b2)
  have Y2 := hidC (Y1.out.since b2)
  clear K1 X1 Y1 B1 b2
  cases hok : memberB id me ks with
  | false =>
    obtain ⟨⟨q0, q1, q2⟩, f0, f1, f2⟩ := box3 t2
    have HR := hidC (CuIs.no (ep := ep) (vs := vs) (ss := ss) hok)
    have HF := hidC (box3_set2 (box3_set1 (box3_set0 t2 (.int .i64 0)) (.int .i64 0)) (.slice none 0 0))
    have HB := hidC (show Below w.heap.size w (((w2.setCell ⟨w.heap.size + 1 + 1, 0, none⟩ (.int .i64 0)).setCell ⟨w.heap.size + 1 + 1, 1, none⟩ (.int .i64 0)).setCell ⟨w.heap.size + 1 + 1, 2, none⟩ (.slice none 0 0)) from ((B2.out.setCell (by simp; omega) _).setCell (by simp; omega) _).setCell (by simp; omega) _)
    go_wp2
    have bF := HF.out
    have gB := HB.out
    obtain ⟨r1, r2, r3, r4⟩ := HR.out
    generalize ((w2.setCell ⟨w.heap.size + 1 + 1, 0, none⟩ (.int .i64 0)).setCell ⟨w.heap.size + 1 + 1, 1, none⟩ (.int .i64 0)).setCell ⟨w.heap.size + 1 + 1, 2, none⟩ (.slice none 0 0) = WF at bF gB ⊢
    obtain ⟨⟨z0, z1, z2⟩, _, _, _⟩ := box3 bF
    rw [r1, r2, r3, r4]
    exact bodyPost_ret (v := .tuple #[mv 0 0 (.slice none 0 0), .int .i64 1]) (by simp [results, Try.results14, go_sem, z0, z1, z2]) rfl ⟨none, 0, rfl, noKeys _ _, gB⟩
  | true =>
  go_wp2_with fail
  refine (specServerOk_any ep X2.out Y2.out).mono ?_
  rintro e w3 ⟨rfl, b3⟩
  have B3 := hidC (more B2.out b3)
  have hs3 := b3.size
  have t2 := (b3.block _ (by omega)).trans t2
  have m0 := cell_since m0 b3
  have m1 := cell_since m1 b3
  have m2 := cell_since m2 b3
  have s0 := cell_since s0 b3
  have s1 := cell_since s1 b3
  have s2 := cell_since s2 b3
  have K3 := hidC (keysSince K2.out b3)
  have X3 := hidC (X2.out.since b3)
  have Y3 := hidC (Y2.out.since b3)
  clear K2 X2 Y2 B2 b3
  cases hsv : serverB ep vs ss with
  | false =>
    have hC : cuC ep vs ss id = 2 := by simp [cuC, hsv]
    have HR := hidC (CuIs.same (ep := ep) (vs := vs) (ss := ss) hok (by rw [hC]; decide))
    rw [hC] at HR
    have hfew := memberB_few hok
    go_wp2_with fail
    refine (l4Copy_any id me K3.out (by omega)).mono ?_
    rintro e wC ⟨aC, cC, rfl, kC, bC⟩
    have hltC := kC.lt
    have tC := (bC.block _ (by omega)).trans t2
    have hsC : w.heap.size ≤ w3.heap.size := B3.out.size
    obtain ⟨⟨q0, q1, q2⟩, f0, f1, f2⟩ := box3 tC
    have HF := hidC (box3_set2 (box3_set1 (box3_set0 tC (.int .i64 id)) (.int .i64 me)) (.slice aC ks.length cC))
    have HB := hidC (show Below w.heap.size w (((wC.setCell ⟨w.heap.size + 1 + 1, 0, none⟩ (.int .i64 id)).setCell ⟨w.heap.size + 1 + 1, 1, none⟩ (.int .i64 me)).setCell ⟨w.heap.size + 1 + 1, 2, none⟩ (.slice aC ks.length cC)) from (((more B3.out bC).setCell (by simp; omega) _).setCell (by simp; omega) _).setCell (by simp; omega) _)
    have HK := hidC (show Keys w.heap.size (.slice aC ks.length cC) ks (((wC.setCell ⟨w.heap.size + 1 + 1, 0, none⟩ (.int .i64 id)).setCell ⟨w.heap.size + 1 + 1, 1, none⟩ (.int .i64 me)).setCell ⟨w.heap.size + 1 + 1, 2, none⟩ (.slice aC ks.length cC)) from (((kC.mono hsC).kept (grown_set wC (w.heap.size + 1 + 1) 0 _) (fun k e e' => by cases e; have := (hltC _ e').1; omega)).kept (grown_set _ (w.heap.size + 1 + 1) 1 _) (fun k e e' => by cases e; have := (hltC _ e').1; omega)).kept (grown_set _ (w.heap.size + 1 + 1) 2 _) (fun k e e' => by cases e; have := (hltC _ e').1; omega))
    clear hltC tC kC bC
    go_wp2
    have bF := HF.out
    have gB := HB.out
    have gK := HK.out
    obtain ⟨r1, r2, r3, r4⟩ := HR.out
    generalize ((wC.setCell ⟨w.heap.size + 1 + 1, 0, none⟩ (.int .i64 id)).setCell ⟨w.heap.size + 1 + 1, 1, none⟩ (.int .i64 me)).setCell ⟨w.heap.size + 1 + 1, 2, none⟩ (.slice aC ks.length cC) = WF at bF gB gK ⊢
    obtain ⟨⟨z0, z1, z2⟩, _, _, _⟩ := box3 bF
    rw [r1, r2, r3, r4]
    exact bodyPost_ret (v := .tuple #[mv id me (.slice aC ks.length cC), .int .i64 2]) (by simp [results, Try.results14, go_sem, z0, z1, z2]) rfl ⟨aC, cC, rfl, gK, gB⟩
  | true =>
  go_wp2_with fail
  refine (l3Leaf_any ep id Y3.out).mono ?_
  rintro e w4 ⟨rfl, b4⟩
  have B4 := hidC (more B3.out b4)
  have hs4 := b4.size
  have t2 := (b4.block _ (by omega)).trans t2
  have m0 := cell_since m0 b4
  have m1 := cell_since m1 b4
  have m2 := cell_since m2 b4
  have s0 := cell_since s0 b4
  have s1 := cell_since s1 b4
  have s2 := cell_since s2 b4
  have K4 := hidC (keysSince K3.out b4)
  have X4 := hidC (X3.out.since b4)
  have Y4 := hidC (Y3.out.since b4)
  clear K3 X3 Y3 B3 b4
  cases hse : seatOf ss id with
  | none =>
    have hC : cuC ep vs ss id = 5 := by simp [cuC, hsv, hse]
    have HR := hidC (CuIs.same (ep := ep) (vs := vs) (ss := ss) hok (by rw [hC]; decide))
    rw [hC] at HR
    have hlv : leafV ss id = 0 := by unfold leafV; rw [hse]; rfl
    rw [hlv]
    have hfew := memberB_few hok
    go_wp2_with fail
    refine (l4Copy_any id me K4.out (by omega)).mono ?_
    rintro e wC ⟨aC, cC, rfl, kC, bC⟩
    have hltC := kC.lt
    have tC := (bC.block _ (by omega)).trans t2
    have hsC : w.heap.size ≤ w4.heap.size := B4.out.size
    obtain ⟨⟨q0, q1, q2⟩, f0, f1, f2⟩ := box3 tC
    have HF := hidC (box3_set2 (box3_set1 (box3_set0 tC (.int .i64 id)) (.int .i64 me)) (.slice aC ks.length cC))
    have HB := hidC (show Below w.heap.size w (((wC.setCell ⟨w.heap.size + 1 + 1, 0, none⟩ (.int .i64 id)).setCell ⟨w.heap.size + 1 + 1, 1, none⟩ (.int .i64 me)).setCell ⟨w.heap.size + 1 + 1, 2, none⟩ (.slice aC ks.length cC)) from (((more B4.out bC).setCell (by simp; omega) _).setCell (by simp; omega) _).setCell (by simp; omega) _)
    have HK := hidC (show Keys w.heap.size (.slice aC ks.length cC) ks (((wC.setCell ⟨w.heap.size + 1 + 1, 0, none⟩ (.int .i64 id)).setCell ⟨w.heap.size + 1 + 1, 1, none⟩ (.int .i64 me)).setCell ⟨w.heap.size + 1 + 1, 2, none⟩ (.slice aC ks.length cC)) from (((kC.mono hsC).kept (grown_set wC (w.heap.size + 1 + 1) 0 _) (fun k e e' => by cases e; have := (hltC _ e').1; omega)).kept (grown_set _ (w.heap.size + 1 + 1) 1 _) (fun k e e' => by cases e; have := (hltC _ e').1; omega)).kept (grown_set _ (w.heap.size + 1 + 1) 2 _) (fun k e e' => by cases e; have := (hltC _ e').1; omega))
    clear hltC tC kC bC
    go_wp2
    have bF := HF.out
    have gB := HB.out
    have gK := HK.out
    obtain ⟨r1, r2, r3, r4⟩ := HR.out
    generalize ((wC.setCell ⟨w.heap.size + 1 + 1, 0, none⟩ (.int .i64 id)).setCell ⟨w.heap.size + 1 + 1, 1, none⟩ (.int .i64 me)).setCell ⟨w.heap.size + 1 + 1, 2, none⟩ (.slice aC ks.length cC) = WF at bF gB gK ⊢
    obtain ⟨⟨z0, z1, z2⟩, _, _, _⟩ := box3 bF
    rw [r1, r2, r3, r4]
    exact bodyPost_ret (v := .tuple #[mv id me (.slice aC ks.length cC), .int .i64 5]) (by simp [results, Try.results14, go_sem, z0, z1, z2]) rfl ⟨aC, cC, rfl, gK, gB⟩
  | some lf =>
    have hC : cuC ep vs ss id = 0 := by simp [cuC, hsv, hse]
    have hb : kfB ep vs ss id = true := by simp [kfB, hsv, hse]
    have hlv : leafV ss id = lf := by unfold leafV; rw [hse]; rfl
    have hlf := seatOf_leaf hsv hse
    have hkl : kfL ep vs ss id = (keysOn vs lf).reverse := by unfold kfL; rw [if_pos hb, hlv]
    have HR := hidC (CuIs.done (ep := ep) (vs := vs) (ss := ss) hok hC)
    rw [hkl] at HR
    have hK4 : ((keysOn vs lf).reverse).length = 4 := by rw [List.length_reverse, keysOn_len hlf]
    have HLen := hidC (serverB_len hsv)
    have HLf := hidC hlf
    have hz : (lf == 0) = false := by simp; omega
    rw [hlv]
    generalize hL : (keysOn vs lf).reverse = L at *
    have HLL := hidC hL
    have X4d := hidC (show Ints C x vs w4.drew from X4.out)
    obtain ⟨⟨q0, q1, q2⟩, f0, f1, f2⟩ := box3 t2
    have T2 := hidC t2
    clear hb hlv hse hsv hkl hC hlf t2 hL
    go_wp2
    go_region_with (go_at_call 33; refine (l3Keys_any ep lf X4d.out HLf.out HLen.out).mono ?_; rintro e w5 ⟨a5, c5, rfl, k5, b5⟩; have m0 := cell_since (show w4.drew.cell? _ = _ from m0) b5; have s0 := cell_since (show w4.drew.cell? _ = _ from s0) b5; have s1 := cell_since (show w4.drew.cell? _ = _ from s1) b5; have s2 := cell_since (show w4.drew.cell? _ = _ from s2) b5; have t5 := (b5.block (w.heap.size + 1 + 1) (show _ < w4.heap.size by omega)).trans (show w4.drew.heap[w.heap.size + 1 + 1]? = _ from T2.out); obtain ⟨⟨q0, q1, q2⟩, f0, f1, f2⟩ := box3 t5)
    all_goals
      rw [HLL.out] at k5
      have hlt5 : ∀ j, (Value.slice a5 4 c5).ownBlock = some j → w4.heap.size ≤ j := fun j e => (k5.lt j e).1
      have hs5 : w4.heap.size ≤ w5.heap.size := b5.size
      have B5 : Below w.heap.size w w5 := more (show Below w.heap.size w w4.drew from B4.out.drew) b5
      have bF := box3_set2 (box3_set1 (box3_set0 t5 (.int .i64 id)) (.int .i64 ep)) (.slice a5 4 c5)
      have gB : Below w.heap.size w (((w5.setCell ⟨w.heap.size + 1 + 1, 0, none⟩ (.int .i64 id)).setCell ⟨w.heap.size + 1 + 1, 1, none⟩ (.int .i64 ep)).setCell ⟨w.heap.size + 1 + 1, 2, none⟩ (.slice a5 4 c5)) := ((B5.setCell (by simp; omega) _).setCell (by simp; omega) _).setCell (by simp; omega) _
      have gK : Keys w.heap.size (.slice a5 4 c5) L (((w5.setCell ⟨w.heap.size + 1 + 1, 0, none⟩ (.int .i64 id)).setCell ⟨w.heap.size + 1 + 1, 1, none⟩ (.int .i64 ep)).setCell ⟨w.heap.size + 1 + 1, 2, none⟩ (.slice a5 4 c5)) := (((k5.mono (show w.heap.size ≤ w4.heap.size by omega)).kept (grown_set w5 (w.heap.size + 1 + 1) 0 _) (fun k e e' => by cases e; have := hlt5 _ e'; omega)).kept (grown_set _ (w.heap.size + 1 + 1) 1 _) (fun k e e' => by cases e; have := hlt5 _ e'; omega)).kept (grown_set _ (w.heap.size + 1 + 1) 2 _) (fun k e e' => by cases e; have := hlt5 _ e'; omega)
      have HF := hidC bF
      have HB := hidC gB
      have HK := hidC gK
      clear bF gB gK hlt5 k5 b5 B5 t5 q0 q1 q2 f0 f1 f2 m0 s0 s1 s2
      generalize ((w5.setCell ⟨w.heap.size + 1 + 1, 0, none⟩ (.int .i64 id)).setCell ⟨w.heap.size + 1 + 1, 1, none⟩ (.int .i64 ep)).setCell ⟨w.heap.size + 1 + 1, 2, none⟩ (.slice a5 4 c5) = WF at HF HB HK ⊢
      go_wp2
      obtain ⟨r1, r2, r3, r4⟩ := HR.out
      obtain ⟨⟨z0, z1, z2⟩, _, _, _⟩ := box3 HF.out
      rw [r1, r2, r3, r4, hK4]
      exact bodyPost_ret (v := .tuple #[mv id ep (.slice a5 4 c5), .int .i64 0]) (by simp [results, Try.results14, go_sem, z0, z1, z2]) rfl ⟨a5, c5, rfl, HK.out, HB.out⟩
end Go.Proofs.Ytjilbfohfgalkaa
/- The walk of the drawn law of CaughtUp: it answers true at every code, and nothing that lay there turns. -/
namespace Go.Proofs.Ytjilbfohfgalkaa
open Go.RowKit

theorem cu_cases (id me : Int) (ks : List (Int × Int)) (ep : Int) (vs : List Int) (ss : List (Int × Int)) :
    cuR id me ks ep vs ss = 1 ∨ (cuR id me ks ep vs ss ≠ 1 ∧ cuR id me ks ep vs ss ≠ 0 ∧ cuI id me ks = id ∧ cuE id me ks ep vs ss = me ∧ cuK id me ks ep vs ss = ks ∧ kfB ep vs ss id = false) ∨
    (cuR id me ks ep vs ss = 0 ∧ cuI id me ks = id ∧ cuE id me ks ep vs ss = ep ∧ cuK id me ks ep vs ss = kfL ep vs ss id ∧ kfB ep vs ss id = true ∧ memberB id ep (kfL ep vs ss id) = true) := by
  cases hm : memberB id me ks with
  | false => exact .inl (by simp [cuR, hm])
  | true =>
    refine .inr ?_
    cases hf : kfB ep vs ss id with
    | false =>
      have hc : cuC ep vs ss id ≠ 0 ∧ cuC ep vs ss id ≠ 1 := by
        unfold cuC
        unfold kfB at hf
        cases hs : serverB ep vs ss with
        | false => simp
        | true =>
          rw [hs] at hf
          simp only [Bool.true_and] at hf
          simp [hf]
      exact .inl ⟨by simp [cuR, hm, hc.2], by simp [cuR, hm, hc.1], by simp [cuI, hm], by simp [cuE, hm, hc.1], by simp [cuK, hm, hc.1], rfl⟩
    | true =>
      have hc : cuC ep vs ss id = 0 := by
        unfold cuC
        unfold kfB at hf
        simp only [Bool.and_eq_true] at hf
        simp [hf.1, hf.2]
      obtain ⟨hsv, na, nb, nc, hL, h1a, hab, hbc, hc15, hpath⟩ := kf_four hf
      obtain ⟨hkn, hnd⟩ := four_known hsv h1a hab hbc hc15
      refine .inr ⟨by simp [cuR, hm, hc], by simp [cuI, hm], by simp [cuE, hm, hc], by simp [cuK, hm, hc], rfl, ?_⟩
      rw [hL]
      unfold memberB headB at hm ⊢
      unfold serverB at hsv
      simp only [Bool.and_eq_true] at hm hsv ⊢
      exact ⟨⟨hm.1.1, hsv.1, hkn⟩, hnd⟩

set_option maxRecDepth 100000 in
set_option maxHeartbeats 8000000 in
theorem fnCaughtUp_any (a : Option Addr) (len cap : Nat) (W : World) (h : Q.Bytes W.heap.size a len W) :
    Calls Try.prog 4 #[.slice a len cap] W fun e W' => e = .returned (.bool true) ∧ Below W.heap.size W W' := by
  have hlen := h.1
  unfold maxLen at hlen
  by_cases hbig : (1048576 : Int) < (len : Int)
  · have hd : decide ((1048576 : Int) < (len : Int)) = true := decide_eq_true hbig
    go_enter Try.func4, Try.ntmps4
    go_wp2_with fail
    refine (Q.big_any _ _ _ _).mono ?_
    rintro e w' ⟨rfl, rfl⟩
    rw [hd]
    go_wp2
    go_ret
    exact ⟨rfl, Below.refl _ _⟩
  · have hd : decide ((1048576 : Int) < (len : Int)) = false := decide_eq_false hbig
    go_enter Try.func4, Try.ntmps4
    go_wp2_with fail
    refine (Q.big_any _ _ _ _).mono ?_
    rintro e w' ⟨rfl, hww⟩
    subst w'
    rw [hd]
    go_wp2_with fail
    refine (drawCaughtUp_any a len cap W h).mono ?_
    rintro e w1 ⟨id, me, ep, ak, nk, ck, bk, ks, ax, nx, cx, ay, ny, cy, bx, by', vs, ss, rfl, hnk, hk5, hny, h9, hnx, H1⟩
    have H2 := hidS ((H1.alloc (mb id me (.slice ak nk ck))).alloc (svb ep (.slice ax nx cx) (.slice ay ny cy)))
    simp only [World.size_alloc] at H2
    have HNK := hidS hnk
    clear H1 hd h hnk hk5 hny h9 hnx
    obtain ⟨⟨m0, m1, m2⟩, _, _, _⟩ := box3 H2.out.b1
    obtain ⟨⟨o0, o1, o2⟩, _, _, _⟩ := box3 H2.out.b0
    go_wp2_with fail
    generalize (w1.alloc (mb id me (.slice ak nk ck))).alloc (svb ep (.slice ax nx cx) (.slice ay ny cy)) = w2 at *
    refine (caughtUp_any id me ep (show Keys bk (.slice ak nk ck) ks w2 from H2.out.r0) (show Ints bx (.slice ax nx cx) vs w2 from H2.out.r1) (show Seats by' (.slice ay ny cy) ss w2 from H2.out.r2)).mono ?_
    rintro e w3 ⟨a3, c3, rfl, k3, b3⟩
    obtain ⟨I, E, L, r, HI⟩ : ∃ I E L r, Hid (cuI id me ks = I ∧ cuE id me ks ep vs ss = E ∧ cuK id me ks ep vs ss = L ∧ cuR id me ks ep vs ss = r) := ⟨_, _, _, _, rfl, rfl, rfl, rfl⟩
    rw [HI.out.2.2.1] at k3
    rw [HI.out.1, HI.out.2.1, HI.out.2.2.1, HI.out.2.2.2]
    have H3 := hidS ((H2.out.add b3 (r := fK w2.heap.size (.slice a3 L.length c3) L) k3 (Nat.le_refl _)).alloc (mb I E (.slice a3 L.length c3)))
    clear H2 b3 k3 m0 m1 m2 o0 o1 o2
    obtain ⟨⟨m0, m1, m2⟩, _, _, _⟩ := box3 H3.out.b2
    obtain ⟨⟨o0, o1, o2⟩, _, _, _⟩ := box3 H3.out.b1
    obtain ⟨⟨n0, n1, n2⟩, _, _, _⟩ := box3 H3.out.b0
    go_wp2_with fail
    generalize w3.alloc (mb I E (.slice a3 L.length c3)) = w4 at *
    refine (specCaughtUp_any id me ep (show Keys bk (.slice ak nk ck) ks w4 from H3.out.r1) (show Ints bx (.slice ax nx cx) vs w4 from H3.out.r2) (show Seats by' (.slice ay ny cy) ss w4 from H3.out.r3)).mono ?_
    rintro e w5 ⟨a5, c5, rfl, k5, b5⟩
    rw [HI.out.2.2.1] at k5
    rw [HI.out.1, HI.out.2.1, HI.out.2.2.1, HI.out.2.2.2]
    have H5 := hidS ((H3.out.add b5 (r := fK w4.heap.size (.slice a5 L.length c5) L) k5 (Nat.le_refl _)).alloc (mb I E (.slice a5 L.length c5)))
    clear H3 b5 k5 m0 m1 m2 o0 o1 o2 n0 n1 n2
    obtain ⟨⟨m0, m1, m2⟩, _, _, _⟩ := box3 H5.out.b3
    obtain ⟨⟨o0, o1, o2⟩, _, _, _⟩ := box3 H5.out.b2
    obtain ⟨⟨n0, n1, n2⟩, _, _, _⟩ := box3 H5.out.b1
    obtain ⟨⟨q0, q1, q2⟩, _, _, _⟩ := box3 H5.out.b0
    go_wp2_with fail
    generalize w5.alloc (mb I E (.slice a5 L.length c5)) = w6 at *
    refine (sameMember_self I E (show Keys w2.heap.size (.slice a3 L.length c3) L w6 from H5.out.r1) (show Keys w4.heap.size (.slice a5 L.length c5) L w6 from H5.out.r0)).mono ?_
    rintro e w7 ⟨rfl, b7⟩
    have H7 := hidS (H5.out.since b7)
    clear H5 b7 m0 m1 m2 o0 o1 o2 n0 n1 n2 q0 q1 q2
    obtain ⟨⟨m0, m1, m2⟩, _, _, _⟩ := box3 H7.out.b3
    obtain ⟨⟨o0, o1, o2⟩, _, _, _⟩ := box3 H7.out.b2
    obtain ⟨⟨n0, n1, n2⟩, _, _, _⟩ := box3 H7.out.b1
    obtain ⟨⟨q0, q1, q2⟩, _, _, _⟩ := box3 H7.out.b0
    rcases cu_cases id me ks ep vs ss with hr | ⟨hr1, hr0, hI, hE, hK, hF⟩ | ⟨hr, hI, hE, hK, hF, hM⟩
    · obtain rfl : r = 1 := HI.out.2.2.2.symm.trans hr
      clear hr
      go_wp2_with fail
      refine (sameMember_self I E (show Keys w2.heap.size (.slice a3 L.length c3) L w7 from H7.out.r1) (show Keys w4.heap.size (.slice a5 L.length c5) L w7 from H7.out.r0)).mono ?_
      rintro e w8 ⟨rfl, b8⟩
      have H8 := hidS (H7.out.since b8)
      clear H7 b8 m0 m1 m2 o0 o1 o2 n0 n1 n2 q0 q1 q2
      go_wp2
      go_ret
      exact ⟨rfl, H8.out.bel⟩
    · rw [HI.out.2.2.2] at hr1 hr0
      have h1 : (r == 1) = false := by simpa using hr1
      have h0 : (r == 0) = false := by simpa using hr0
      obtain rfl : I = id := HI.out.1.symm.trans hI
      obtain rfl : E = me := HI.out.2.1.symm.trans hE
      obtain rfl : L = ks := HI.out.2.2.1.symm.trans hK
      have HF := hidS hF
      clear hr1 hr0 hI hE hK hF
      go_wp2_with fail
      refine (keysFor_any ep I (show Ints bx (.slice ax nx cx) vs w7 from H7.out.r3) (show Seats by' (.slice ay ny cy) ss w7 from H7.out.r4)).mono ?_
      rintro e w8 ⟨a8, c8, rfl, k8, b8⟩
      have H8 := hidS (H7.out.since b8)
      clear H7 b8 m0 m1 m2 o0 o1 o2 n0 n1 n2 q0 q1 q2
      obtain ⟨⟨m0, m1, m2⟩, _, _, _⟩ := box3 H8.out.b3
      obtain ⟨⟨o0, o1, o2⟩, _, _, _⟩ := box3 H8.out.b2
      obtain ⟨⟨n0, n1, n2⟩, _, _, _⟩ := box3 H8.out.b1
      obtain ⟨⟨q0, q1, q2⟩, _, _, _⟩ := box3 H8.out.b0
      rw [HF.out]
      go_wp2_with fail
      refine (sameMember_self I E (show Keys w2.heap.size (.slice a3 L.length c3) L w8 from H8.out.r1) (show Keys bk (.slice ak nk ck) L w8 from H8.out.r2)).mono ?_
      rintro e w9 ⟨rfl, b9⟩
      have H9 := hidS (H8.out.since b9)
      clear H8 b9 m0 m1 m2 o0 o1 o2 n0 n1 n2 q0 q1 q2
      go_wp2
      go_ret
      exact ⟨rfl, H9.out.bel⟩
    · obtain rfl : r = 0 := HI.out.2.2.2.symm.trans hr
      obtain rfl : I = id := HI.out.1.symm.trans hI
      obtain rfl : E = ep := HI.out.2.1.symm.trans hE
      have HL := hidS (show kfL E vs ss I = L from hK.symm.trans HI.out.2.2.1)
      have HF := hidS hF
      rw [HL.out] at hM
      have HM := hidS hM
      clear hr hI hE hK hF hM
      go_wp2_with fail
      refine (keysFor_any E I (show Ints bx (.slice ax nx cx) vs w7 from H7.out.r3) (show Seats by' (.slice ay ny cy) ss w7 from H7.out.r4)).mono ?_
      rintro e w8 ⟨a8, c8, rfl, k8, b8⟩
      rw [HL.out] at k8
      rw [HF.out, HL.out]
      have H8 := hidS (H7.out.add b8 (r := fK w7.heap.size (.slice a8 L.length c8) L) k8 (Nat.le_refl _))
      clear H7 b8 k8 m0 m1 m2 o0 o1 o2 n0 n1 n2 q0 q1 q2
      obtain ⟨⟨m0, m1, m2⟩, _, _, _⟩ := box3 H8.out.b3
      obtain ⟨⟨o0, o1, o2⟩, _, _, _⟩ := box3 H8.out.b2
      obtain ⟨⟨n0, n1, n2⟩, _, _, _⟩ := box3 H8.out.b1
      obtain ⟨⟨q0, q1, q2⟩, _, _, _⟩ := box3 H8.out.b0
      go_wp2_with fail
      refine (sameKeys_self (show Keys w2.heap.size (.slice a3 L.length c3) L w8 from H8.out.r2) (show Keys w7.heap.size (.slice a8 L.length c8) L w8 from H8.out.r0)).mono ?_
      rintro e w9 ⟨rfl, b9⟩
      have H9 := hidS (H8.out.since b9)
      clear H8 b9 m0 m1 m2 o0 o1 o2 n0 n1 n2 q0 q1 q2
      obtain ⟨⟨m0, m1, m2⟩, _, _, _⟩ := box3 H9.out.b3
      obtain ⟨⟨o0, o1, o2⟩, _, _, _⟩ := box3 H9.out.b2
      obtain ⟨⟨n0, n1, n2⟩, _, _, _⟩ := box3 H9.out.b1
      obtain ⟨⟨q0, q1, q2⟩, _, _, _⟩ := box3 H9.out.b0
      go_wp2_with fail
      refine (memberOk_any I E (show Keys w2.heap.size (.slice a3 L.length c3) L w9 from H9.out.r2)).mono ?_
      rintro e w10 ⟨rfl, b10⟩
      rw [HM.out]
      have H10 := hidS (H9.out.since b10)
      clear H9 b10 m0 m1 m2 o0 o1 o2 n0 n1 n2 q0 q1 q2
      go_wp2
      go_ret
      exact ⟨rfl, H10.out.bel⟩
end Go.Proofs.Ytjilbfohfgalkaa
