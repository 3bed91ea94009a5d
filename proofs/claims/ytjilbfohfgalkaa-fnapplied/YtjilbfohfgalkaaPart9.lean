/- The code of a drawn law: bytes, and the test of its length. -/
import Derived.Test.YtjilbfohfgalkaaPart0
import Derived.Deep.RegionHeld3
import Derived.Test.YtjilbfohfgalkaaDmb2
import Derived.Test.YtjilbfohfgalkaaPart4
import Derived.Deep.MidRow
import Derived.Test.YtjilbfohfgalkaaPart3
import Derived.Laws.AppendOwnNone
namespace Go.Proofs.Ytjilbfohfgalkaa
open Go.RowKit
namespace Q

/-- The bytes that are drawn from: they lie below B. -/
def Bytes (B : Nat) (a : Option Addr) (len : Nat) (W : World) : Prop :=
  len ≤ maxLen ∧ ∀ i, i < len → ∃ b off x, a = some ⟨b, off, none⟩ ∧ b < B ∧ W.cell? ⟨b, off + i, none⟩ = some (.int .u8 x) ∧ 0 ≤ x ∧ x ≤ 255
theorem Bytes.kept {B len : Nat} {a : Option Addr} {W W' : World} (h : Bytes B a len W) (hb : Below B W W') : Bytes B a len W' :=
  ⟨h.1, fun i hi => by
    obtain ⟨b, off, x, e, hB, hc, hx⟩ := h.2 i hi
    exact ⟨b, off, x, e, hB, (hb.cell (p := ⟨b, off + i, none⟩) hB).trans hc, hx⟩⟩
theorem Bytes.rd {B len : Nat} {a : Option Addr} {W : World} (h : Bytes B a len W) (hB : B ≤ W.heap.size) (cap : Nat) : Rd B W.heap.size (W.alloc (.cells #[.slice a len cap, .int .i64 0] 74)) := by
  refine ⟨a, len, cap, 0, Nat.zero_le _, h.1, hB, blk_new _ _, fun i hi => ?_⟩
  obtain ⟨b, off, x, e, hb, hc, hx⟩ := h.2 i hi
  exact ⟨b, off, x, e, hb, (World.grownBy_alloc W _ none).cell hc (by simp), hx⟩

theorem big_any (a : Option Addr) (len cap : Nat) (W : World) :
    Calls Try.prog 5 #[.slice a len cap] W fun e W' => e = .returned (.bool (decide ((1048576 : Int) < (len : Int)))) ∧ W' = W := by
  go_enter Try.func5, Try.ntmps5
  go_wp2
  go_ret
  exact ⟨by simp, rfl⟩

end Q
end Go.Proofs.Ytjilbfohfgalkaa
/- What the drawn law of CaughtUp draws: a member and a server. -/
namespace Go.Proofs.Ytjilbfohfgalkaa
open Go.RowKit

theorem Home.drawn {w0 w2 w3 : World} {bs bs' : List (Nat × Obj)} {rs : List RowF} {B R : Nat} (H : Home w0 bs [] w2) (X : RdX B R w2 bs' rs w3) (hR : w0.heap.size ≤ R) (hb : ∀ p, p ∈ bs → p.1 ≠ R) : Home w0 (bs' ++ bs) rs w3 := by
  have hg := X.grown
  have hs := H.bel.size
  obtain ⟨a, len, cap, p, h1, X⟩ := X
  refine ⟨H.bel.grown hg hs (fun k e => by cases e; exact hR), fun p hp => ?_, fun p hp => ?_, List.pairwise_append.2 ⟨X.nod, H.nod, fun p hp q hq e => ?_⟩, X.row, fun r hr => Nat.le_trans hs (X.fresh r hr), X.apart, fun p hp r hr e => ?_⟩
  · rcases List.mem_append.1 hp with hp | hp
    · exact X.box p hp
    · exact (hg.block p.1 (blkLt (H.box p hp)) (fun e => by injection e with e; first | exact hb p hp e | exact hb p hp e.symm)).trans (H.box p hp)
  · rcases List.mem_append.1 hp with hp | hp
    · exact Nat.le_trans hs (X.new p hp)
    · exact H.new p hp
  · have h1 := X.new p hp
    have h2 := blkLt (H.box q hq)
    omega
  · rcases List.mem_append.1 hp with hp | hp
    · exact X.off p hp r hr e
    · have h1 := ((X.row r hr).lt _ e).1
      have h2 := X.fresh r hr
      have h3 := blkLt (H.box p hp)
      omega

set_option maxRecDepth 100000 in
set_option maxHeartbeats 8000000 in
theorem drawCaughtUp_any (a : Option Addr) (len cap : Nat) (W : World) (h : Q.Bytes W.heap.size a len W) :
    Calls Try.prog 12 #[.slice a len cap] W fun e W' => ∃ (id me ep : Int) (ak : Option Addr) (nk ck bk : Nat) (ks : List (Int × Int)) (ax : Option Addr) (nx cx : Nat) (ay : Option Addr) (ny cy bx by' : Nat) (vs : List Int) (ss : List (Int × Int)), e = .returned (.tuple #[mv id me (.slice ak nk ck), svv ep (.slice ax nx cx) (.slice ay ny cy)]) ∧ ks.length = nk ∧ nk ≤ 5 ∧ ss.length = ny ∧ ny ≤ 9 ∧ vs.length = nx ∧ Home W [] [fK bk (.slice ak nk ck) ks, fI bx (.slice ax nx cx) vs, fS by' (.slice ay ny cy) ss] W' := by
  have H0 := hidS (((Home.start W).alloc (mb 0 0 (.slice none 0 0))).alloc (svb 0 (.slice none 0 0) (.slice none 0 0)))
  simp only [World.size_alloc] at H0
  have hB1 := two_below W (mb 0 0 (.slice none 0 0)) (svb 0 (.slice none 0 0) (.slice none 0 0))
  have h1 := h.kept hB1
  have HS1 := hidS (show ((W.alloc (mb 0 0 (.slice none 0 0))).alloc (svb 0 (.slice none 0 0) (.slice none 0 0))).heap.size = W.heap.size + 1 + 1 by simp)
  clear hB1 h
  go_enter Try.func12, Try.ntmps12
  go_wp2_with fail
  generalize (W.alloc (mb 0 0 (.slice none 0 0))).alloc (svb 0 (.slice none 0 0) (.slice none 0 0)) = w1 at *
  refine (Q.l1Open_any a len cap _).mono ?_
  rintro e w2 ⟨rfl, hw2⟩
  have R2 : Q.Rd W.heap.size w1.heap.size w2 := by rw [hw2]; exact h1.rd (by have := HS1.out; omega) cap
  have H2 := hidS (H0.out.since (show Below w1.heap.size w1 w2 by rw [hw2]; exact one_below _ _))
  clear hw2 h1 H0
  go_wp2_with fail
  refine (drawMember_any W.heap.size w1.heap.size w2 R2).mono ?_
  rintro e w3 ⟨id, me, ep, ak, nk, ck, bk, ks, al, nl, cl, es, ax, nx, cx, ay, ny, cy, bx, by', vs, ss, rfl, hnk, hk5, hes, hl3, hny, h9, hnx, X3⟩
  have X4 := hidS ((X3.alloc (mb id me (.slice ak nk ck))).alloc (svb ep (.slice ax nx cx) (.slice ay ny cy)))
  simp only [World.size_alloc] at X4
  have H4 := hidS (H2.out.drawn X4.out (by have := HS1.out; omega) (fun p hp => by
    have hs := HS1.out
    simp only [List.mem_cons, List.not_mem_nil, or_false] at hp
    rcases hp with rfl | rfl <;> simp only [ne_eq] <;> omega))
  have HN := hidS (And.intro hnk (And.intro hk5 (And.intro hny (And.intro h9 hnx))))
  clear X3 X4 H2 R2 HS1 hnk hk5 hes hl3 hny h9 hnx
  go_upto_region 3 with fail
  generalize (w3.alloc (mb id me (.slice ak nk ck))).alloc (svb ep (.slice ax nx cx) (.slice ay ny cy)) = w4 at H4 ⊢
  refine wp_region_any (by kernel_rfl) ?_
  try (change wpAny _ _ _ _ _ _ _ (World.drew _))
  have X0 := hidS (H4.out.drew)
  clear H4
  generalize World.drew w4 = x0 at X0 ⊢
  obtain ⟨⟨m0, m1, m2⟩, mf0, mf1, mf2⟩ := box3 X0.out.b1
  obtain ⟨⟨o0, o1, o2⟩, e0, e1, e2⟩ := box3 X0.out.b0
  obtain ⟨⟨p0, p1, p2⟩, f0, f1, f2⟩ := box3 X0.out.b3
  have H17 := hidS (((X0.out.s330 (.int .i64 id)).s331 (.int .i64 me)).s332 (.slice ak nk ck))
  have H18 := hidS (((H17.out.s320 (.int .i64 ep)).s321 (.slice ax nx cx)).s322 (.slice ay ny cy))
  clear X0
  refine wpAny_ready (rs := [0, 1]) (by kernel_rfl) (by simp) ?_
  refine AllReady.cons rfl (fun K hK => ?_) (AllReady.cons rfl (fun K hK => ?_) AllReady.nil)
  · go_simp
    refine hK _ _ ?_
    clear hK K
    refine wpAny_ready (rs := [1, 2]) (by kernel_rfl) (by simp) ?_
    refine AllReady.cons rfl (fun K hK => ?_) (AllReady.cons rfl (fun K hK => ?_) AllReady.nil)
    · go_simp
      refine hK _ _ ?_
      clear hK K
      refine wpAny_ready (rs := [2]) (by kernel_rfl) (by simp) ?_
      refine AllReady.cons rfl (fun K hK => ?_) AllReady.nil
      · go_simp
        refine hK _ _ ?_
        clear hK K
        clear m0 m1 m2 mf0 mf1 mf2 o0 o1 o2 e0 e1 e2 p0 p1 p2 f0 f1 f2
        generalize ((x0.setCell ⟨W.heap.size, 0, none⟩ (.int .i64 id)).setCell ⟨W.heap.size, 1, none⟩ (.int .i64 me)).setCell ⟨W.heap.size, 2, none⟩ (.slice ak nk ck) = x1 at H17 H18 ⊢
        obtain ⟨⟨m0, m1, m2⟩, mf0, mf1, mf2⟩ := box3 H17.out.b1
        obtain ⟨⟨o0, o1, o2⟩, e0, e1, e2⟩ := box3 H17.out.b0
        obtain ⟨⟨p0, p1, p2⟩, f0, f1, f2⟩ := box3 H17.out.b2
        refine wpAny_ready (rs := [3]) (by kernel_rfl) (by simp) ?_
        refine AllReady.cons rfl (fun K hK => ?_) AllReady.nil
        · go_simp
          refine hK _ _ ?_
          clear hK K
          clear m0 m1 m2 mf0 mf1 mf2 o0 o1 o2 e0 e1 e2 p0 p1 p2 f0 f1 f2
          refine wpAny_done (by kernel_rfl) ?_ _
          generalize ((x1.setCell ⟨W.heap.size + 1, 0, none⟩ (.int .i64 ep)).setCell ⟨W.heap.size + 1, 1, none⟩ (.slice ax nx cx)).setCell ⟨W.heap.size + 1, 2, none⟩ (.slice ay ny cy) = x2 at H18 ⊢
          clear H17
          obtain ⟨⟨p0, p1, p2⟩, _, _, _⟩ := box3 H18.out.b2
          obtain ⟨⟨q0, q1, q2⟩, _, _, _⟩ := box3 H18.out.b3
          have P0 := hidS p0
          have P1 := hidS p1
          have P2 := hidS p2
          have Q0 := hidS q0
          have Q1 := hidS q1
          have Q2 := hidS q2
          clear p0 p1 p2 q0 q1 q2
          go_wp2
          exact bodyPost_ret (v := .tuple #[mv id me (.slice ak nk ck), svv ep (.slice ax nx cx) (.slice ay ny cy)]) (by simp [results, Try.results12, go_sem, P0.out, P1.out, P2.out, Q0.out, Q1.out, Q2.out]) rfl ⟨id, me, ep, ak, nk, ck, bk, ks, ax, nx, cx, ay, ny, cy, bx, by', vs, ss, rfl, HN.out.1, HN.out.2.1, HN.out.2.2.1, HN.out.2.2.2.1, HN.out.2.2.2.2, H18.out.sub (List.nil_sublist _) (.cons_cons _ (.cons _ (.cons_cons _ (.cons_cons _ (List.nil_sublist _)))))⟩
    · go_simp
      refine hK _ _ ?_
      clear hK K
      clear m0 m1 m2 mf0 mf1 mf2 o0 o1 o2 e0 e1 e2 p0 p1 p2 f0 f1 f2
      generalize ((x0.setCell ⟨W.heap.size, 0, none⟩ (.int .i64 id)).setCell ⟨W.heap.size, 1, none⟩ (.int .i64 me)).setCell ⟨W.heap.size, 2, none⟩ (.slice ak nk ck) = x1 at H17 H18 ⊢
      obtain ⟨⟨m0, m1, m2⟩, mf0, mf1, mf2⟩ := box3 H17.out.b1
      obtain ⟨⟨o0, o1, o2⟩, e0, e1, e2⟩ := box3 H17.out.b0
      obtain ⟨⟨p0, p1, p2⟩, f0, f1, f2⟩ := box3 H17.out.b2
      refine wpAny_ready (rs := [1]) (by kernel_rfl) (by simp) ?_
      refine AllReady.cons rfl (fun K hK => ?_) AllReady.nil
      · go_simp
        refine hK _ _ ?_
        clear hK K
        refine wpAny_ready (rs := [3]) (by kernel_rfl) (by simp) ?_
        refine AllReady.cons rfl (fun K hK => ?_) AllReady.nil
        · go_simp
          refine hK _ _ ?_
          clear hK K
          clear m0 m1 m2 mf0 mf1 mf2 o0 o1 o2 e0 e1 e2 p0 p1 p2 f0 f1 f2
          refine wpAny_done (by kernel_rfl) ?_ _
          generalize ((x1.setCell ⟨W.heap.size + 1, 0, none⟩ (.int .i64 ep)).setCell ⟨W.heap.size + 1, 1, none⟩ (.slice ax nx cx)).setCell ⟨W.heap.size + 1, 2, none⟩ (.slice ay ny cy) = x2 at H18 ⊢
          clear H17
          obtain ⟨⟨p0, p1, p2⟩, _, _, _⟩ := box3 H18.out.b2
          obtain ⟨⟨q0, q1, q2⟩, _, _, _⟩ := box3 H18.out.b3
          have P0 := hidS p0
          have P1 := hidS p1
          have P2 := hidS p2
          have Q0 := hidS q0
          have Q1 := hidS q1
          have Q2 := hidS q2
          clear p0 p1 p2 q0 q1 q2
          go_wp2
          exact bodyPost_ret (v := .tuple #[mv id me (.slice ak nk ck), svv ep (.slice ax nx cx) (.slice ay ny cy)]) (by simp [results, Try.results12, go_sem, P0.out, P1.out, P2.out, Q0.out, Q1.out, Q2.out]) rfl ⟨id, me, ep, ak, nk, ck, bk, ks, ax, nx, cx, ay, ny, cy, bx, by', vs, ss, rfl, HN.out.1, HN.out.2.1, HN.out.2.2.1, HN.out.2.2.2.1, HN.out.2.2.2.2, H18.out.sub (List.nil_sublist _) (.cons_cons _ (.cons _ (.cons_cons _ (.cons_cons _ (List.nil_sublist _)))))⟩
  · go_simp
    refine hK _ _ ?_
    clear hK K
    refine wpAny_ready (rs := [0]) (by kernel_rfl) (by simp) ?_
    refine AllReady.cons rfl (fun K hK => ?_) AllReady.nil
    · go_simp
      refine hK _ _ ?_
      clear hK K
      refine wpAny_ready (rs := [2]) (by kernel_rfl) (by simp) ?_
      refine AllReady.cons rfl (fun K hK => ?_) AllReady.nil
      · go_simp
        refine hK _ _ ?_
        clear hK K
        clear m0 m1 m2 mf0 mf1 mf2 o0 o1 o2 e0 e1 e2 p0 p1 p2 f0 f1 f2
        generalize ((x0.setCell ⟨W.heap.size, 0, none⟩ (.int .i64 id)).setCell ⟨W.heap.size, 1, none⟩ (.int .i64 me)).setCell ⟨W.heap.size, 2, none⟩ (.slice ak nk ck) = x1 at H17 H18 ⊢
        obtain ⟨⟨m0, m1, m2⟩, mf0, mf1, mf2⟩ := box3 H17.out.b1
        obtain ⟨⟨o0, o1, o2⟩, e0, e1, e2⟩ := box3 H17.out.b0
        obtain ⟨⟨p0, p1, p2⟩, f0, f1, f2⟩ := box3 H17.out.b2
        refine wpAny_ready (rs := [3]) (by kernel_rfl) (by simp) ?_
        refine AllReady.cons rfl (fun K hK => ?_) AllReady.nil
        · go_simp
          refine hK _ _ ?_
          clear hK K
          clear m0 m1 m2 mf0 mf1 mf2 o0 o1 o2 e0 e1 e2 p0 p1 p2 f0 f1 f2
          refine wpAny_done (by kernel_rfl) ?_ _
          generalize ((x1.setCell ⟨W.heap.size + 1, 0, none⟩ (.int .i64 ep)).setCell ⟨W.heap.size + 1, 1, none⟩ (.slice ax nx cx)).setCell ⟨W.heap.size + 1, 2, none⟩ (.slice ay ny cy) = x2 at H18 ⊢
          clear H17
          obtain ⟨⟨p0, p1, p2⟩, _, _, _⟩ := box3 H18.out.b2
          obtain ⟨⟨q0, q1, q2⟩, _, _, _⟩ := box3 H18.out.b3
          have P0 := hidS p0
          have P1 := hidS p1
          have P2 := hidS p2
          have Q0 := hidS q0
          have Q1 := hidS q1
          have Q2 := hidS q2
          clear p0 p1 p2 q0 q1 q2
          go_wp2
          exact bodyPost_ret (v := .tuple #[mv id me (.slice ak nk ck), svv ep (.slice ax nx cx) (.slice ay ny cy)]) (by simp [results, Try.results12, go_sem, P0.out, P1.out, P2.out, Q0.out, Q1.out, Q2.out]) rfl ⟨id, me, ep, ak, nk, ck, bk, ks, ax, nx, cx, ay, ny, cy, bx, by', vs, ss, rfl, HN.out.1, HN.out.2.1, HN.out.2.2.1, HN.out.2.2.2.1, HN.out.2.2.2.2, H18.out.sub (List.nil_sublist _) (.cons_cons _ (.cons _ (.cons_cons _ (.cons_cons _ (List.nil_sublist _)))))⟩
end Go.Proofs.Ytjilbfohfgalkaa
/- What the drawn law of Applied draws: a member and a rekey. -/
namespace Go.Proofs.Ytjilbfohfgalkaa
open Go.RowKit

/-- Two rows of the bundle, the others out of sight. -/
theorem Hex.two {w0 W : World} {bs : List (Nat × Obj)} {rs : List RowF} {ex r r' : RowF} (H : Hex w0 bs rs ex W) (h : r ∈ rs) (h' : r' ∈ rs) (hne : r.t ≠ r'.t) : Hex w0 bs [r, r'] ex W := by
  refine ⟨H.bel, H.exOn, H.low, H.box, H.new, H.nod, fun s hs => ?_, fun s hs => ?_, List.pairwise_cons.2 ⟨fun s hs => ?_, List.pairwise_cons.2 ⟨(fun _ h => by cases h), .nil⟩⟩, fun p hp s hs => ?_⟩
  · simp only [List.mem_cons, List.not_mem_nil, or_false] at hs
    rcases hs with rfl | rfl
    · exact H.row _ h
    · exact H.row _ h'
  · simp only [List.mem_cons, List.not_mem_nil, or_false] at hs
    rcases hs with rfl | rfl
    · exact H.fresh _ h
    · exact H.fresh _ h'
  · simp only [List.mem_cons, List.not_mem_nil, or_false] at hs
    subst hs
    exact rows_ne (H.row _ h) (H.row _ h') hne
  · simp only [List.mem_cons, List.not_mem_nil, or_false] at hs
    rcases hs with rfl | rfl
    · exact H.off p hp _ h
    · exact H.off p hp _ h'
theorem RdX.perm' {B R : Nat} {w0 W : World} {bs : List (Nat × Obj)} {rs : List RowF} {r r' : RowF} (X : RdX B R w0 bs rs W) (h : r ∈ rs) (h' : r' ∈ rs) (hne : r.t ≠ r'.t) : RdX B R w0 bs [r, r'] W := X.map fun _ H => H.two h h' hne

set_option maxRecDepth 100000 in
set_option maxHeartbeats 8000000 in
theorem drawApplied_any (a : Option Addr) (len cap : Nat) (W : World) (h : Q.Bytes W.heap.size a len W) :
    Calls Try.prog 6 #[.slice a len cap] W fun e W' => ∃ (id me er : Int) (ak : Option Addr) (nk ck bk : Nat) (ks : List (Int × Int)) (ar : Option Addr) (nr cr br : Nat) (wr : List W4), e = .returned (.tuple #[mv id me (.slice ak nk ck), rv er (.slice ar nr cr)]) ∧ ks.length = nk ∧ nk ≤ 5 ∧ Home W [] [fW br (.slice ar nr cr) wr, fK bk (.slice ak nk ck) ks] W' := by
  have H0 := hidS (((Home.start W).alloc (mb 0 0 (.slice none 0 0))).alloc (rb 0 (.slice none 0 0)))
  simp only [World.size_alloc] at H0
  have hB1 := two_below W (mb 0 0 (.slice none 0 0)) (rb 0 (.slice none 0 0))
  have h1 := h.kept hB1
  have HS1 := hidS (show ((W.alloc (mb 0 0 (.slice none 0 0))).alloc (rb 0 (.slice none 0 0))).heap.size = W.heap.size + 1 + 1 by simp)
  clear hB1 h
  go_enter Try.func6, Try.ntmps6
  go_wp2_with fail
  generalize (W.alloc (mb 0 0 (.slice none 0 0))).alloc (rb 0 (.slice none 0 0)) = w1 at *
  refine (Q.l1Open_any a len cap _).mono ?_
  rintro e w2 ⟨rfl, hw2⟩
  have R2 : Q.Rd W.heap.size w1.heap.size w2 := by rw [hw2]; exact h1.rd (by have := HS1.out; omega) cap
  have H2 := hidS (H0.out.since (show Below w1.heap.size w1 w2 by rw [hw2]; exact one_below _ _))
  clear hw2 h1 H0
  go_wp2_with fail
  refine (drawMember_any W.heap.size w1.heap.size w2 R2).mono ?_
  rintro e w3 ⟨id, me, ep, ak, nk, ck, bk, ks, al, nl, cl, es, ax, nx, cx, ay, ny, cy, bx, by', vs, ss, rfl, hnk, hk5, hes, hl3, hny, h9, hnx, X3⟩
  have X4 := hidS ((X3.alloc (mb id me (.slice ak nk ck))).alloc (svb ep (.slice ax nx cx) (.slice ay ny cy)))
  simp only [World.size_alloc] at X4
  have HN := hidS (And.intro hnk hk5)
  clear X3 R2 hnk hk5 hny h9 hnx
  go_wp2_with fail
  generalize (w3.alloc (mb id me (.slice ak nk ck))).alloc (svb ep (.slice ax nx cx) (.slice ay ny cy)) = w4 at *
  refine (Q.off_any W.heap.size w1.heap.size 1 3 _ X4.out.rd (by omega) (by omega) (by omega)).mono ?_
  rintro e w5 ⟨x5, hx5, rfl, hR5, hg5⟩
  have X5 := hidS ((X4.out.read hR5 hg5).alloc (rb x5 (.slice none 0 0)))
  clear X4 hR5 hg5 hx5
  go_upto_if 22 with fail
  generalize w5.alloc (rb x5 (.slice none 0 0)) = w6 at *
  go_cut [] from 20 (fun wx => ∃ (er : Int) (ar : Option Addr) (nr cr br : Nat) (wr : List W4), Hid (RdX W.heap.size w1.heap.size w2 [(w5.heap.size, rb er (.slice ar nr cr)), (w3.heap.size + 1, svb ep (.slice ax nx cx) (.slice ay ny cy)), (w3.heap.size, mb id me (.slice ak nk ck))] [fW br (.slice ar nr cr) wr, fK bk (.slice ak nk ck) ks] wx))
  case first =>
    obtain rfl | rfl | rfl | rfl : nl = 0 ∨ nl = 1 ∨ nl = 2 ∨ nl = 3 := by omega
    · obtain rfl : es = [] := List.eq_nil_of_length_eq_zero hes
      have HF := hidS ((X5.out.sub (rs' := [fK bk (.slice ak nk ck) ks]) (List.Sublist.refl _) (.cons_cons _ (List.nil_sublist _))).map fun _ H => H.add (Below.refl _ _) (r := fW w6.heap.size (.slice none 0 0) []) (World.ownsRow_nil _ _ _ _) (Nat.le_refl _))
      clear X5
      go_wp2_with fail
      go_meet
      exact ⟨x5, none, 0, 0, w6.heap.size, [], HF⟩
    · obtain ⟨e0, rfl⟩ : ∃ e0 : RE, es = [e0] := by
        match es, hes with
        | [e0], _ => exact ⟨_, rfl⟩
      obtain ⟨te0, ve0, se0, be0⟩ := e0
      obtain ⟨gB, cB, hLS⟩ := row_formL (fL_own (X5.out.at fun _ H => H.row (fL w2.heap.size (.slice al 1 cl) [⟨te0, ve0, se0, be0⟩]) (by simp)) rfl)
      injection hLS with hal hnn hcl
      clear hnn
      subst hal hcl
      obtain ⟨az, nz, cz, hz⟩ := wformL (show Wraps be0 ve0 se0 w6 from X5.out.at fun _ H => H.row (fW be0 ve0 se0) (by simp [reRow]))
      subst hz
      obtain ⟨z0, z1⟩ := re_at (X5.out.at fun _ H => H.row (fL w2.heap.size (.slice (some ⟨gB, 0, none⟩) 1 cl) [⟨te0, .slice az nz cz, se0, be0⟩]) (by simp)) 0 (by simp)
      simp only [Nat.zero_mul, Nat.zero_add, List.getElem_cons_zero] at z0 z1
      obtain ⟨⟨q0, q1⟩, qf0, qf1⟩ := box2K X5.out.b0
      have X6 := hidS (X5.out.map fun _ H => (H.s200 (.int .i64 te0)).s201 (.slice az nz cz))
      clear X5 hes hl3
      go_wp2_with fail
      generalize (w6.setCell ⟨w5.heap.size, 0, none⟩ (.int .i64 te0)).setCell ⟨w5.heap.size, 1, none⟩ (.slice az nz cz) = w7 at *
      clear z0 z1 q0 q1 qf0 qf1
      refine (Q.once_any W.heap.size w1.heap.size 3 _ X6.out.rd (by omega) (by omega)).mono ?_
      rintro e w8 ⟨fl, rfl, hR8, hg8⟩
      have X8 := hidS (X6.out.read hR8 hg8)
      clear X6 hR8 hg8
      cases fl with
      | false =>
        have HF := hidS (X8.out.perm' (r := fW be0 (.slice az nz cz) se0) (r' := fK bk (.slice ak nk ck) ks) (by simp [reRow]) (by simp) (fun e => by cases e))
        clear X8
        go_wp2_with fail
        go_meet
        exact ⟨te0, az, nz, cz, be0, se0, HF⟩
      | true =>
        obtain ⟨z0, z1⟩ := re_at (X8.out.at fun _ H => H.row (fL w2.heap.size (.slice (some ⟨gB, 0, none⟩) 1 cl) [⟨te0, .slice az nz cz, se0, be0⟩]) (by simp)) 0 (by simp)
        simp only [List.getElem_cons_zero] at z0 z1
        obtain ⟨⟨q0, q1⟩, qf0, qf1⟩ := box2K X8.out.b0
        have X9 := hidS (X8.out.map fun _ H => (H.s200 (.int .i64 te0)).s201 (.slice az nz cz))
        have HF := hidS (X9.out.perm' (r := fW be0 (.slice az nz cz) se0) (r' := fK bk (.slice ak nk ck) ks) (by simp [reRow]) (by simp) (fun e => by cases e))
        clear X8 X9
        go_wp2_with fail
        go_meet
        exact ⟨te0, az, nz, cz, be0, se0, HF⟩
    · obtain ⟨e0, e1, rfl⟩ : ∃ e0 e1 : RE, es = [e0, e1] := by
        match es, hes with
        | [e0, e1], _ => exact ⟨_, _, rfl⟩
      obtain ⟨te0, ve0, se0, be0⟩ := e0
      obtain ⟨te1, ve1, se1, be1⟩ := e1
      obtain ⟨gB, cB, hLS⟩ := row_formL (fL_own (X5.out.at fun _ H => H.row (fL w2.heap.size (.slice al 2 cl) [⟨te0, ve0, se0, be0⟩, ⟨te1, ve1, se1, be1⟩]) (by simp)) rfl)
      injection hLS with hal hnn hcl
      clear hnn
      subst hal hcl
      obtain ⟨az, nz, cz, hz⟩ := wformL (show Wraps be0 ve0 se0 w6 from X5.out.at fun _ H => H.row (fW be0 ve0 se0) (by simp [reRow]))
      subst hz
      obtain ⟨ay1, ny1, cy1, hz⟩ := wformL (show Wraps be1 ve1 se1 w6 from X5.out.at fun _ H => H.row (fW be1 ve1 se1) (by simp [reRow]))
      subst hz
      obtain ⟨z0, z1⟩ := re_at (X5.out.at fun _ H => H.row (fL w2.heap.size (.slice (some ⟨gB, 0, none⟩) 2 cl) [⟨te0, .slice az nz cz, se0, be0⟩, ⟨te1, .slice ay1 ny1 cy1, se1, be1⟩]) (by simp)) 0 (by simp)
      simp only [Nat.zero_mul, Nat.zero_add, List.getElem_cons_zero] at z0 z1
      obtain ⟨⟨q0, q1⟩, qf0, qf1⟩ := box2K X5.out.b0
      have X6 := hidS (X5.out.map fun _ H => (H.s200 (.int .i64 te0)).s201 (.slice az nz cz))
      clear X5 hes hl3
      go_wp2_with fail
      generalize (w6.setCell ⟨w5.heap.size, 0, none⟩ (.int .i64 te0)).setCell ⟨w5.heap.size, 1, none⟩ (.slice az nz cz) = w7 at *
      clear z0 z1 q0 q1 qf0 qf1
      refine (Q.once_any W.heap.size w1.heap.size 3 _ X6.out.rd (by omega) (by omega)).mono ?_
      rintro e w8 ⟨fl, rfl, hR8, hg8⟩
      have X8 := hidS (X6.out.read hR8 hg8)
      clear X6 hR8 hg8
      cases fl with
      | false =>
        have HF := hidS (X8.out.perm' (r := fW be0 (.slice az nz cz) se0) (r' := fK bk (.slice ak nk ck) ks) (by simp [reRow]) (by simp) (fun e => by cases e))
        clear X8
        go_wp2_with fail
        go_meet
        exact ⟨te0, az, nz, cz, be0, se0, HF⟩
      | true =>
        obtain ⟨z0, z1⟩ := re_at (X8.out.at fun _ H => H.row (fL w2.heap.size (.slice (some ⟨gB, 0, none⟩) 2 cl) [⟨te0, .slice az nz cz, se0, be0⟩, ⟨te1, .slice ay1 ny1 cy1, se1, be1⟩]) (by simp)) 1 (by simp)
        simp only [List.getElem_cons_zero, List.getElem_cons_succ] at z0 z1
        obtain ⟨⟨q0, q1⟩, qf0, qf1⟩ := box2K X8.out.b0
        have X9 := hidS (X8.out.map fun _ H => (H.s200 (.int .i64 te1)).s201 (.slice ay1 ny1 cy1))
        have HF := hidS (X9.out.perm' (r := fW be1 (.slice ay1 ny1 cy1) se1) (r' := fK bk (.slice ak nk ck) ks) (by simp [reRow]) (by simp) (fun e => by cases e))
        clear X8 X9
        go_wp2_with fail
        go_meet
        exact ⟨te1, ay1, ny1, cy1, be1, se1, HF⟩
    · obtain ⟨e0, e1, e2, rfl⟩ : ∃ e0 e1 e2 : RE, es = [e0, e1, e2] := by
        match es, hes with
        | [e0, e1, e2], _ => exact ⟨_, _, _, rfl⟩
      obtain ⟨te0, ve0, se0, be0⟩ := e0
      obtain ⟨te1, ve1, se1, be1⟩ := e1
      obtain ⟨te2, ve2, se2, be2⟩ := e2
      obtain ⟨gB, cB, hLS⟩ := row_formL (fL_own (X5.out.at fun _ H => H.row (fL w2.heap.size (.slice al 3 cl) [⟨te0, ve0, se0, be0⟩, ⟨te1, ve1, se1, be1⟩, ⟨te2, ve2, se2, be2⟩]) (by simp)) rfl)
      injection hLS with hal hnn hcl
      clear hnn
      subst hal hcl
      obtain ⟨az, nz, cz, hz⟩ := wformL (show Wraps be0 ve0 se0 w6 from X5.out.at fun _ H => H.row (fW be0 ve0 se0) (by simp [reRow]))
      subst hz
      obtain ⟨ay1, ny1, cy1, hz⟩ := wformL (show Wraps be2 ve2 se2 w6 from X5.out.at fun _ H => H.row (fW be2 ve2 se2) (by simp [reRow]))
      subst hz
      obtain ⟨z0, z1⟩ := re_at (X5.out.at fun _ H => H.row (fL w2.heap.size (.slice (some ⟨gB, 0, none⟩) 3 cl) [⟨te0, .slice az nz cz, se0, be0⟩, ⟨te1, ve1, se1, be1⟩, ⟨te2, .slice ay1 ny1 cy1, se2, be2⟩]) (by simp)) 0 (by simp)
      simp only [Nat.zero_mul, Nat.zero_add, List.getElem_cons_zero] at z0 z1
      obtain ⟨⟨q0, q1⟩, qf0, qf1⟩ := box2K X5.out.b0
      have X6 := hidS (X5.out.map fun _ H => (H.s200 (.int .i64 te0)).s201 (.slice az nz cz))
      clear X5 hes hl3
      go_wp2_with fail
      generalize (w6.setCell ⟨w5.heap.size, 0, none⟩ (.int .i64 te0)).setCell ⟨w5.heap.size, 1, none⟩ (.slice az nz cz) = w7 at *
      clear z0 z1 q0 q1 qf0 qf1
      refine (Q.once_any W.heap.size w1.heap.size 3 _ X6.out.rd (by omega) (by omega)).mono ?_
      rintro e w8 ⟨fl, rfl, hR8, hg8⟩
      have X8 := hidS (X6.out.read hR8 hg8)
      clear X6 hR8 hg8
      cases fl with
      | false =>
        have HF := hidS (X8.out.perm' (r := fW be0 (.slice az nz cz) se0) (r' := fK bk (.slice ak nk ck) ks) (by simp [reRow]) (by simp) (fun e => by cases e))
        clear X8
        go_wp2_with fail
        go_meet
        exact ⟨te0, az, nz, cz, be0, se0, HF⟩
      | true =>
        obtain ⟨z0, z1⟩ := re_at (X8.out.at fun _ H => H.row (fL w2.heap.size (.slice (some ⟨gB, 0, none⟩) 3 cl) [⟨te0, .slice az nz cz, se0, be0⟩, ⟨te1, ve1, se1, be1⟩, ⟨te2, .slice ay1 ny1 cy1, se2, be2⟩]) (by simp)) 2 (by simp)
        simp only [List.getElem_cons_zero, List.getElem_cons_succ] at z0 z1
        obtain ⟨⟨q0, q1⟩, qf0, qf1⟩ := box2K X8.out.b0
        have X9 := hidS (X8.out.map fun _ H => (H.s200 (.int .i64 te2)).s201 (.slice ay1 ny1 cy1))
        have HF := hidS (X9.out.perm' (r := fW be2 (.slice ay1 ny1 cy1) se2) (r' := fK bk (.slice ak nk ck) ks) (by simp [reRow]) (by simp) (fun e => by cases e))
        clear X8 X9
        go_wp2_with fail
        go_meet
        exact ⟨te2, ay1, ny1, cy1, be2, se2, HF⟩
  case rest =>
    obtain ⟨er, ar, nr, cr, br, wr, HC⟩ := hcut
    have H4 := hidS (H2.out.drawn HC.out (by have := HS1.out; omega) (fun p hp => by
      have hs := HS1.out
      simp only [List.mem_cons, List.not_mem_nil, or_false] at hp
      rcases hp with rfl | rfl <;> simp only [ne_eq] <;> omega))
    clear HC H2 HS1 hes hl3 X5
    go_upto_region 8 with fail
    refine wp_region_any (by kernel_rfl) ?_
    try (change wpAny _ _ _ _ _ _ _ (World.drew _))
    have X0 := hidS (H4.out.drew)
    clear H4
    generalize World.drew wc = x0 at X0 ⊢
    obtain ⟨⟨m0, m1, m2⟩, mf0, mf1, mf2⟩ := box3 X0.out.b2
    obtain ⟨⟨o0, o1⟩, e0, e1⟩ := box2K X0.out.b0
    obtain ⟨⟨p0, p1, p2⟩, f0, f1, f2⟩ := box3 X0.out.b4
    have H17 := hidS (((X0.out.s340 (.int .i64 id)).s341 (.int .i64 me)).s342 (.slice ak nk ck))
    have H18 := hidS ((H17.out.s230 (.int .i64 er)).s231 (.slice ar nr cr))
    clear X0
    refine wpAny_ready (rs := [0, 1]) (by kernel_rfl) (by simp) ?_
    refine AllReady.cons rfl (fun K hK => ?_) (AllReady.cons rfl (fun K hK => ?_) AllReady.nil)
    · go_simp
      refine hK _ _ ?_
      clear hK K
      refine wpAny_ready (rs := [1, 2]) (by kernel_rfl) (by simp) ?_
      refine AllReady.cons rfl (fun K hK => ?_) (AllReady.cons rfl (fun K hK => ?_) AllReady.nil)
      · go_simp
        refine hK _ _ ?_
        clear hK K
        refine wpAny_ready (rs := [2]) (by kernel_rfl) (by simp) ?_
        refine AllReady.cons rfl (fun K hK => ?_) AllReady.nil
        · go_simp
          refine hK _ _ ?_
          clear hK K
          clear m0 m1 m2 mf0 mf1 mf2 o0 o1 e0 e1 p0 p1 p2 f0 f1 f2
          generalize ((x0.setCell ⟨W.heap.size, 0, none⟩ (.int .i64 id)).setCell ⟨W.heap.size, 1, none⟩ (.int .i64 me)).setCell ⟨W.heap.size, 2, none⟩ (.slice ak nk ck) = x1 at H17 H18 ⊢
          obtain ⟨⟨m0, m1, m2⟩, mf0, mf1, mf2⟩ := box3 H17.out.b2
          obtain ⟨⟨o0, o1⟩, e0, e1⟩ := box2K H17.out.b0
          obtain ⟨⟨p0, p1⟩, f0, f1⟩ := box2K H17.out.b3
          refine wpAny_ready (rs := [3]) (by kernel_rfl) (by simp) ?_
          refine AllReady.cons rfl (fun K hK => ?_) AllReady.nil
          · go_simp
            refine hK _ _ ?_
            clear hK K
            clear m0 m1 m2 mf0 mf1 mf2 o0 o1 e0 e1 p0 p1 f0 f1
            refine wpAny_done (by kernel_rfl) ?_ _
            generalize (x1.setCell ⟨W.heap.size + 1, 0, none⟩ (.int .i64 er)).setCell ⟨W.heap.size + 1, 1, none⟩ (.slice ar nr cr) = x2 at H18 ⊢
            clear H17
            obtain ⟨⟨p0, p1⟩, _, _⟩ := box2K H18.out.b3
            obtain ⟨⟨q0, q1, q2⟩, _, _, _⟩ := box3 H18.out.b4
            have P0 := hidS p0
            have P1 := hidS p1
            have Q0 := hidS q0
            have Q1 := hidS q1
            have Q2 := hidS q2
            clear p0 p1 q0 q1 q2
            go_wp2
            exact bodyPost_ret (v := .tuple #[mv id me (.slice ak nk ck), rv er (.slice ar nr cr)]) (by simp [results, Try.results6, go_sem, P0.out, P1.out, Q0.out, Q1.out, Q2.out]) rfl ⟨id, me, er, ak, nk, ck, bk, ks, ar, nr, cr, br, wr, rfl, HN.out.1, HN.out.2, H18.out.sub (List.nil_sublist _) (List.Sublist.refl _)⟩
      · go_simp
        refine hK _ _ ?_
        clear hK K
        clear m0 m1 m2 mf0 mf1 mf2 o0 o1 e0 e1 p0 p1 p2 f0 f1 f2
        generalize ((x0.setCell ⟨W.heap.size, 0, none⟩ (.int .i64 id)).setCell ⟨W.heap.size, 1, none⟩ (.int .i64 me)).setCell ⟨W.heap.size, 2, none⟩ (.slice ak nk ck) = x1 at H17 H18 ⊢
        obtain ⟨⟨m0, m1, m2⟩, mf0, mf1, mf2⟩ := box3 H17.out.b2
        obtain ⟨⟨o0, o1⟩, e0, e1⟩ := box2K H17.out.b0
        obtain ⟨⟨p0, p1⟩, f0, f1⟩ := box2K H17.out.b3
        refine wpAny_ready (rs := [1]) (by kernel_rfl) (by simp) ?_
        refine AllReady.cons rfl (fun K hK => ?_) AllReady.nil
        · go_simp
          refine hK _ _ ?_
          clear hK K
          refine wpAny_ready (rs := [3]) (by kernel_rfl) (by simp) ?_
          refine AllReady.cons rfl (fun K hK => ?_) AllReady.nil
          · go_simp
            refine hK _ _ ?_
            clear hK K
            clear m0 m1 m2 mf0 mf1 mf2 o0 o1 e0 e1 p0 p1 f0 f1
            refine wpAny_done (by kernel_rfl) ?_ _
            generalize (x1.setCell ⟨W.heap.size + 1, 0, none⟩ (.int .i64 er)).setCell ⟨W.heap.size + 1, 1, none⟩ (.slice ar nr cr) = x2 at H18 ⊢
            clear H17
            obtain ⟨⟨p0, p1⟩, _, _⟩ := box2K H18.out.b3
            obtain ⟨⟨q0, q1, q2⟩, _, _, _⟩ := box3 H18.out.b4
            have P0 := hidS p0
            have P1 := hidS p1
            have Q0 := hidS q0
            have Q1 := hidS q1
            have Q2 := hidS q2
            clear p0 p1 q0 q1 q2
            go_wp2
            exact bodyPost_ret (v := .tuple #[mv id me (.slice ak nk ck), rv er (.slice ar nr cr)]) (by simp [results, Try.results6, go_sem, P0.out, P1.out, Q0.out, Q1.out, Q2.out]) rfl ⟨id, me, er, ak, nk, ck, bk, ks, ar, nr, cr, br, wr, rfl, HN.out.1, HN.out.2, H18.out.sub (List.nil_sublist _) (List.Sublist.refl _)⟩
    · go_simp
      refine hK _ _ ?_
      clear hK K
      refine wpAny_ready (rs := [0]) (by kernel_rfl) (by simp) ?_
      refine AllReady.cons rfl (fun K hK => ?_) AllReady.nil
      · go_simp
        refine hK _ _ ?_
        clear hK K
        refine wpAny_ready (rs := [2]) (by kernel_rfl) (by simp) ?_
        refine AllReady.cons rfl (fun K hK => ?_) AllReady.nil
        · go_simp
          refine hK _ _ ?_
          clear hK K
          clear m0 m1 m2 mf0 mf1 mf2 o0 o1 e0 e1 p0 p1 p2 f0 f1 f2
          generalize ((x0.setCell ⟨W.heap.size, 0, none⟩ (.int .i64 id)).setCell ⟨W.heap.size, 1, none⟩ (.int .i64 me)).setCell ⟨W.heap.size, 2, none⟩ (.slice ak nk ck) = x1 at H17 H18 ⊢
          obtain ⟨⟨m0, m1, m2⟩, mf0, mf1, mf2⟩ := box3 H17.out.b2
          obtain ⟨⟨o0, o1⟩, e0, e1⟩ := box2K H17.out.b0
          obtain ⟨⟨p0, p1⟩, f0, f1⟩ := box2K H17.out.b3
          refine wpAny_ready (rs := [3]) (by kernel_rfl) (by simp) ?_
          refine AllReady.cons rfl (fun K hK => ?_) AllReady.nil
          · go_simp
            refine hK _ _ ?_
            clear hK K
            clear m0 m1 m2 mf0 mf1 mf2 o0 o1 e0 e1 p0 p1 f0 f1
            refine wpAny_done (by kernel_rfl) ?_ _
            generalize (x1.setCell ⟨W.heap.size + 1, 0, none⟩ (.int .i64 er)).setCell ⟨W.heap.size + 1, 1, none⟩ (.slice ar nr cr) = x2 at H18 ⊢
            clear H17
            obtain ⟨⟨p0, p1⟩, _, _⟩ := box2K H18.out.b3
            obtain ⟨⟨q0, q1, q2⟩, _, _, _⟩ := box3 H18.out.b4
            have P0 := hidS p0
            have P1 := hidS p1
            have Q0 := hidS q0
            have Q1 := hidS q1
            have Q2 := hidS q2
            clear p0 p1 q0 q1 q2
            go_wp2
            exact bodyPost_ret (v := .tuple #[mv id me (.slice ak nk ck), rv er (.slice ar nr cr)]) (by simp [results, Try.results6, go_sem, P0.out, P1.out, Q0.out, Q1.out, Q2.out]) rfl ⟨id, me, er, ak, nk, ck, bk, ks, ar, nr, cr, br, wr, rfl, HN.out.1, HN.out.2, H18.out.sub (List.nil_sublist _) (List.Sublist.refl _)⟩
end Go.Proofs.Ytjilbfohfgalkaa
/- Contracts of the model's helpers on rising keys: l2Has, l2Put. -/
namespace Go.Proofs.Ytjilbfohfgalkaa
open Go.RowKit

theorem l2Has_none (a : Option Addr) (c : Nat) (x y : Int) (w : World) :
    Calls Try.prog 74 #[.slice a 0 c, kv x y] w fun e w' => e = .returned (.bool false) ∧ w' = w.alloc (kb x y) := by
  go_enter Try.func74, Try.ntmps74
  go_wp2
  refine wp_loop_rounds 1 ?_
  rw [rounds_succ]
  go_wp2
  go_ret
  exact ⟨rfl, rfl⟩

set_option maxHeartbeats 1000000 in
theorem l2Has_row (g c : Nat) (ks : List (Int × Int)) (x y : Int) (w : World) (hm : ks.length ≤ maxLen) (hg : g < w.heap.size) (h1 : KSeg g 0 ks w) :
    Calls Try.prog 74 #[.slice (some ⟨g, 0, none⟩) ks.length c, kv x y] w fun e w' => e = .returned (.bool (decide ((x, y) ∈ ks))) ∧ Below w.heap.size w w' := by
  unfold maxLen at hm
  generalize hn : ks.length = n at hm ⊢
  have hB1 := one_below w (kb x y)
  have b0 : (w.alloc (kb x y)).cell? ⟨w.heap.size, 0, none⟩ = some (.int .i64 x) := by simp
  have b1 : (w.alloc (kb x y)).cell? ⟨w.heap.size, 1, none⟩ = some (.int .i64 y) := by simp
  go_enter Try.func74, Try.ntmps74
  go_wp2
  generalize w.alloc (kb x y) = w1 at hB1 b0 b1 ⊢
  go_loopw [5] (fun i wr => ∃ k : Nat, k ≤ n ∧ i = .int .i64 k ∧ (¬ (x, y) ∈ ks.take k) ∧ ∃ q, wr = w1.drewN q) (fun i _ => n - (intOf i).toNat)
  case atStart => exact ⟨0, Nat.zero_le _, rfl, by simp, 0, rfl⟩
  case round =>
    obtain ⟨k, hk, rfl, hno, q, rfl⟩ := hrel
    have HN : Hid (¬ (x, y) ∈ ks.take k) := hno
    have H1 : Hid (KSeg g 0 ks w) := h1
    clear hno h1
    by_cases hlt : k < n
    · have hlk : k < ks.length := by omega
      obtain ⟨a1, a2⟩ := H1.out k hlk
      simp only [Nat.zero_add] at a1 a2
      have c1 : w1.cell? ⟨g, k * 2, none⟩ = some (.int .i64 ks[k].1) := (hB1.cell (p := ⟨g, k * 2, none⟩) hg).trans a1
      have c2 : w1.cell? ⟨g, k * 2 + 1, none⟩ = some (.int .i64 ks[k].2) := (hB1.cell (p := ⟨g, k * 2 + 1, none⟩) hg).trans a2
      clear a1 a2
      have HT : Hid (ks.take (k + 1) = ks.take k ++ [ks[k]]) := List.take_succ_eq_append_getElem hlk
      have HI : Hid (ks[k] ∈ ks) := List.getElem_mem hlk
      obtain ⟨u, v, hK⟩ : ∃ u v, ks[k] = (u, v) := ⟨_, _, rfl⟩
      rw [hK] at c1 c2
      have HK : Hid (ks[k] = (u, v)) := hK
      clear hK
      by_cases hu : u = x
      · by_cases hv : v = y
        · subst hu hv
          go_wp2
          go_quiet (fail)
          go_wp2
          go_ret
          refine ⟨?_, below_drewN (below_drewN hB1 _) _⟩
          show Ending.returned (.bool true) = _
          rw [decide_eq_true (HK.out ▸ HI.out)]
        · subst hu
          have hv' : (v == y) = false := by simpa using hv
          go_wp2
          go_quiet (fail)
          go_wp2
          go_roundw
          case rel => exact ⟨k + 1, by omega, by go_num, fun h => by rw [HT.out, HK.out] at h; rcases List.mem_append.1 h with h | h; exact HN.out h; simp at h; exact hv h.symm, q + nq, by simp⟩
          case measure => simp [intOf]; omega
      · have hu' : (u == x) = false := by simpa using hu
        go_wp2
        go_quiet (fail)
        go_wp2
        go_roundw
        case rel => exact ⟨k + 1, by omega, by go_num, fun h => by rw [HT.out, HK.out] at h; rcases List.mem_append.1 h with h | h; exact HN.out h; simp at h; exact hu h.1.symm, q + nq, by simp⟩
        case measure => simp [intOf]; omega
    · go_wp2
      go_ret
      refine ⟨?_, below_drewN hB1 _⟩
      show Ending.returned (.bool false) = _
      have : ¬ (x, y) ∈ ks := by have := HN.out; rwa [List.take_of_length_le (by omega)] at this
      rw [decide_eq_false this]
end Go.Proofs.Ytjilbfohfgalkaa
/- The contract of the model's l2Put: rising keys, with one more. -/
namespace Go.Proofs.Ytjilbfohfgalkaa
open Go.RowKit

theorem infoKey : (Try.prog.info? 36).map (fun i => (i.zero, i.size, i.bytes)) = some (some (.agg #[.int .i64 0, .int .i64 0]), 2, 16) := by kernel_rfl
theorem KSeg.take {g off : Nat} {ks : List (Int × Int)} {W : World} (h : KSeg g off ks W) (n : Nat) : KSeg g off (ks.take n) W := fun i hi => by
  have hi' : i < ks.length := by simp at hi; omega
  have := h i hi'
  simpa using this
theorem KSeg.drop {g off : Nat} {ks : List (Int × Int)} {W : World} (h : KSeg g off ks W) (n : Nat) : KSeg g (off + n * 2) (ks.drop n) W := fun i hi => by
  have hi' : n + i < ks.length := by simp at hi; omega
  have := h (n + i) hi'
  have e : off + n * 2 + i * 2 = off + (n + i) * 2 := by omega
  rw [e]
  simpa using this

/-- How many are ahead of k, from the first on. -/
def aheadN (ks : List (Int × Int)) (x y : Int) : Nat := (ks.takeWhile fun k => aheadB k.1 k.2 x y).length
def putL (ks : List (Int × Int)) (x y : Int) : List (Int × Int) :=
  if ks[aheadN ks x y]? = some (x, y) then ks else ks.take (aheadN ks x y) ++ [(x, y)] ++ ks.drop (aheadN ks x y)
theorem aheadN_le (ks : List (Int × Int)) (x y : Int) : aheadN ks x y ≤ ks.length := (List.takeWhile_sublist _).length_le
theorem aheadN_eq (ks : List (Int × Int)) (x y : Int) : ∀ n, n ≤ ks.length → (∀ i (hi : i < ks.length), i < n → aheadB ks[i].1 ks[i].2 x y = true) → (∀ (h : n < ks.length), aheadB ks[n].1 ks[n].2 x y = false) → aheadN ks x y = n := by
  induction ks with
  | nil => intro n hn _ _; simp at hn; subst hn; rfl
  | cons k ks ih =>
    intro n hn h1 h2
    cases n with
    | zero =>
      have := h2 (by simp)
      simp at this
      simp [aheadN, this]
    | succ n =>
      have h0 := h1 0 (by simp) (by omega)
      simp at h0
      have := ih n (by simpa using hn) (fun i hi hin => by have := h1 (i + 1) (by simpa using hi) (by omega); simpa using this) (fun h => by have := h2 (by simpa using h); simpa using this)
      simp [aheadN, h0] at this ⊢
      exact this

theorem cell_two_new (w : World) (x y : Int) (t : TypeId) : ∀ j u, [Value.int .i64 x, .int .i64 y][j]? = some u → (w.alloc (.cells #[.int .i64 x, .int .i64 y] t)).cell? ((⟨w.heap.size, 0, none⟩ : Addr).add j) = some u := by
  intro j u hu
  rw [Addr.add_mid, Nat.zero_add]
  match j, hu with
  | 0, hu => simp at hu; subst hu; simp
  | 1, hu => simp at hu; subst hu; simp
theorem emptyK (w : World) (B : Nat) (h : B ≤ w.heap.size) : (w.alloc (.cells #[] 36)).ownsRow B 36 2 (.slice (some ⟨w.heap.size, 0, none⟩) 0 0) 0 [] := World.ownsRow_lit (base := B) (size := 2) w #[] 0 h (by decide) rfl
theorem KSeg.below {b off : Nat} {ks : List (Int × Int)} {W W' : World} (h : KSeg b off ks W) (hb : Below W.heap.size W W') (hlt : b < W.heap.size) : KSeg b off ks W' := h.kept (hb.block b hlt)

/-- Behind the first of l2Put's appends. -/
theorem put_a {w W wA : World} {g k : Nat} {x y : Int} {ks : List (Int × Int)} {v1 : Value} (hBW : Below w.heap.size w W)
    (hs : KSeg g 0 ks W) (f0 : W.cell? ⟨w.heap.size, 0, none⟩ = some (.int .i64 x)) (f1 : W.cell? ⟨w.heap.size, 1, none⟩ = some (.int .i64 y)) (hg : g < w.heap.size)
    (own1 : wA.ownsRow w.heap.size 36 2 v1 (0 + k) ([] ++ kcells (ks.take k))) (gr1 : (W.alloc (.cells #[] 36)).grownBy wA (Value.slice (some ⟨W.heap.size, 0, none⟩) 0 0).ownBlock) :
    wA.ownsRow w.heap.size 36 2 v1 k (kcells (ks.take k)) ∧ wA.cell? ⟨w.heap.size, 0, none⟩ = some (.int .i64 x) ∧ wA.cell? ⟨w.heap.size, 1, none⟩ = some (.int .i64 y) ∧ Hid (KSeg g 0 ks wA) ∧ w.heap.size ≤ wA.heap.size ∧ Hid (Below w.heap.size w wA) := by
  have hlt := World.block_lt_of_cell? _ _ f0
  have hsW := hBW.size
  have hs1 := gr1.size
  simp at hlt hs1
  have hne : ∀ (b : Nat), b < W.heap.size → some b ≠ (Value.slice (some ⟨W.heap.size, 0, none⟩) 0 0).ownBlock := fun b hb e => by simp [Value.ownBlock] at e; omega
  refine ⟨by simpa using own1, gr1.cell ((World.grownBy_alloc W _ none).cell f0 (by simp)) (hne _ hlt), gr1.cell ((World.grownBy_alloc W _ none).cell f1 (by simp)) (hne _ hlt), ?_, by omega, ?_⟩
  · exact hs.kept ((gr1.block g (by simp; omega) (hne g (by omega))).trans (Below.heap_alloc _ _ _ (by omega)))
  · exact (hBW.alloc hsW _).grown gr1 (by simp; omega) (fun j e => by simp [Value.ownBlock] at e; omega)
/-- Behind the second of them. -/
theorem put_b {w wA wB : World} {g k : Nat} {ks : List (Int × Int)} {v1 : Value} {o : Obj} (hB : Below w.heap.size w wA) (own1 : wA.ownsRow w.heap.size 36 2 v1 k (kcells (ks.take k)))
    (hs : KSeg g 0 ks wA) (hg : g < w.heap.size) (gr2 : (wA.alloc o).grownBy wB v1.ownBlock) : Hid (KSeg g 0 ks wB) ∧ w.heap.size ≤ wB.heap.size ∧ Hid (Below w.heap.size w wB) := by
  have hsA := hB.size
  have hs2 := gr2.size
  simp at hs2
  refine ⟨?_, by omega, ?_⟩
  · exact hs.kept ((gr2.block g (by simp; omega) (fun e => by have := (World.ownsRow.lt own1 g e.symm).1; omega)).trans (Below.heap_alloc _ _ _ (by omega)))
  · exact (hB.alloc hsA _).grown gr2 (by simp; omega) (fun j e => (World.ownsRow.lt own1 j e).1)

set_option maxRecDepth 100000 in
set_option maxHeartbeats 1000000 in
theorem l2Put_row (g c : Nat) (ks : List (Int × Int)) (x y : Int) (w : World) (hc : ks.length ≤ c) (hm : ks.length ≤ 100000) (hg : g < w.heap.size) (h1 : KSeg g 0 ks w) :
    Calls Try.prog 75 #[.slice (some ⟨g, 0, none⟩) ks.length c, kv x y] w fun e w' => ∃ v, e = .returned v ∧ v ≠ .slice none 0 0 ∧ Keys w.heap.size v (putL ks x y) w' ∧ Below w.heap.size w w' := by
  obtain ⟨i0, hi, hz0, hz1, hz2⟩ := info_parts infoKey
  generalize hn : ks.length = n at hm hc ⊢
  have hB1 := one_below w (kb x y)
  have b0 : (w.alloc (kb x y)).cell? ⟨w.heap.size, 0, none⟩ = some (.int .i64 x) := by simp
  have b1 : (w.alloc (kb x y)).cell? ⟨w.heap.size, 1, none⟩ = some (.int .i64 y) := by simp
  have hsz1 : (w.alloc (kb x y)).heap.size = w.heap.size + 1 := by simp
  go_enter Try.func75, Try.ntmps75
  go_wp2
  generalize w.alloc (kb x y) = w1 at hB1 b0 b1 hsz1 ⊢
  go_loopw [5] (fun i wr => ∃ k : Nat, k ≤ n ∧ i = .int .i64 k ∧ (∀ i (hi : i < ks.length), i < k → aheadB ks[i].1 ks[i].2 x y = true) ∧ Below w1.heap.size w1 wr) (fun i _ => n - (intOf i).toNat)
  case atStart => exact ⟨0, Nat.zero_le _, rfl, fun _ _ h => absurd h (Nat.not_lt_zero _), Below.refl _ _⟩
  case round =>
    obtain ⟨k, hk, rfl, hpre, hB⟩ := hrel
    have HP : Hid (∀ i (hi : i < ks.length), i < k → aheadB ks[i].1 ks[i].2 x y = true) := hpre
    have H1 : Hid (KSeg g 0 ks w) := h1
    clear hpre h1
    have hsz := hB.size
    have e0 := cell_since b0 hB
    have e1 := cell_since b1 hB
    by_cases hlt : k < n
    · have hlk : k < ks.length := by omega
      obtain ⟨a1, a2⟩ := H1.out k hlk
      simp only [Nat.zero_add] at a1 a2
      have c1 : wr.cell? ⟨g, k * 2, none⟩ = some (.int .i64 ks[k].1) := cell_since (cell_since a1 hB1) hB
      have c2 : wr.cell? ⟨g, k * 2 + 1, none⟩ = some (.int .i64 ks[k].2) := cell_since (cell_since a2 hB1) hB
      clear a1 a2
      obtain ⟨u, v, hK⟩ : ∃ u v, ks[k] = (u, v) := ⟨_, _, rfl⟩
      rw [hK] at c1 c2
      have HK : Hid (ks[k] = (u, v)) := hK
      clear hK
      have hS0 : Cs4 w1 ⟨g, k * 2, none⟩ (.int .i64 u) ⟨g, k * 2 + 1, none⟩ (.int .i64 v) ⟨w.heap.size, 0, none⟩ (.int .i64 x) ⟨w.heap.size, 1, none⟩ (.int .i64 y) wr.drew := ⟨c1, c2, e0, e1, hB.drew⟩
      have hSN := SW.some hS0
      have s1 := fun s : SW (Cs4 w1 ⟨g, k * 2, none⟩ (.int .i64 u) ⟨g, k * 2 + 1, none⟩ (.int .i64 v) ⟨w.heap.size, 0, none⟩ (.int .i64 x) ⟨w.heap.size, 1, none⟩ (.int .i64 y)) => s.is.1
      have s2 := fun s : SW (Cs4 w1 ⟨g, k * 2, none⟩ (.int .i64 u) ⟨g, k * 2 + 1, none⟩ (.int .i64 v) ⟨w.heap.size, 0, none⟩ (.int .i64 x) ⟨w.heap.size, 1, none⟩ (.int .i64 y)) => s.is.2.1
      have s3 := fun s : SW (Cs4 w1 ⟨g, k * 2, none⟩ (.int .i64 u) ⟨g, k * 2 + 1, none⟩ (.int .i64 v) ⟨w.heap.size, 0, none⟩ (.int .i64 x) ⟨w.heap.size, 1, none⟩ (.int .i64 y)) => s.is.2.2.1
      have s4 := fun s : SW (Cs4 w1 ⟨g, k * 2, none⟩ (.int .i64 u) ⟨g, k * 2 + 1, none⟩ (.int .i64 v) ⟨w.heap.size, 0, none⟩ (.int .i64 x) ⟨w.heap.size, 1, none⟩ (.int .i64 y)) => s.is.2.2.2.1
      go_wp2
      refine wp_region_S (Cs4 w1 ⟨g, k * 2, none⟩ (.int .i64 u) ⟨g, k * 2 + 1, none⟩ (.int .i64 v) ⟨w.heap.size, 0, none⟩ (.int .i64 x) ⟨w.heap.size, 1, none⟩ (.int .i64 y)) (by kernel_rfl) (by kernel_rfl) hS0 ?_
      repeat (go_big_quiet_step ((rename_i s0; go_at_call 72; refine (specAheadK u v x y _).mono ?_; rintro e w' ⟨rfl, hb⟩; exact ⟨rfl, SW.of (s0.is.later hb)⟩)))
      refine wpQuiet_nil ?_
      rintro _ ⟨s, rfl⟩
      have hBf := s.is.2.2.2.2
      have f0 := s.is.2.2.1
      have f1 := s.is.2.2.2.1
      have f2 := s.is.1
      have f3 := s.is.2.1
      generalize s.w = W at hBf f0 f1 f2 f3 ⊢
      clear hS0 hSN s1 s2 s3 s4 c1 c2 e0 e1 s hB hsz
      cases hah : aheadB u v x y with
      | true =>
        go_wp2
        go_roundw
        case rel =>
          refine ⟨k + 1, by omega, by go_num, fun j hj hjk => ?_, hBf⟩
          by_cases e : j = k
          · subst e; rw [HK.out]; exact hah
          · exact HP.out j hj (by omega)
        case measure => simp [intOf]; omega
      | false =>
        have hN : aheadN ks x y = k := aheadN_eq ks x y k (by omega) HP.out (fun h => by rw [HK.out]; exact hah)
        by_cases huv : u = x ∧ v = y
        · obtain ⟨rfl, rfl⟩ := huv
          have hpe : Hid (putL ks u v = ks) := by
            show putL ks u v = ks
            unfold putL
            rw [hN, if_pos]
            rw [List.getElem?_eq_getElem hlk, HK.out]
          clear hN
          go_wp2
          go_quiet (fail)
          have hBf2 : Below w1.heap.size w1 (W.drewN nq) := below_drewN hBf nq
          generalize W.drewN nq = W2 at hBf2 ⊢
          clear hBf f0 f1 f2 f3
          have hseg : KSeg g 0 ks W2 := (H1.out.below hB1 hg).below hBf2 (by omega)
          have hsW := hBf2.size
          have hBW : Below w.heap.size w W2 := hB1.trans (hBf2.mono (by omega))
          have hE := emptyK W2 w.heap.size (by omega)
          have hsE : KSeg g 0 ks (W2.alloc (.cells #[] 36)) := hseg.below (one_below _ _) (by omega)
          have HSE : Hid (KSeg g 0 ks (W2.alloc (.cells #[] 36))) := hsE
          clear hseg hsE
          go_wp2_with (at_builtin; refine wpList_append_own _ rfl _ _ 24 rfl w.heap.size 36 i0 (.agg #[.int .i64 0, .int .i64 0]) 2 16 Try.underlying24 hi hz0 hz1 hz2 rfl (by decide) (.slice (some ⟨W2.heap.size, 0, none⟩) 0 0) 0 [] rfl hE ⟨g, 0, none⟩ n c (kcells ks) rfl (by rw [kcells_length, hn]) (news_keys HSE.out) (one_kcells _) (by unfold maxLen; omega) (by omega) (by simp; omega) ?_; intro v1 wA own1 gr1 nil1)
          go_ret
          refine ⟨v1, rfl, fun e => ?_, ?_, ?_⟩
          · have := (nil1.1 e).1
            cases this
          · rw [hpe.out]
            unfold Keys
            rw [hn]
            simpa using own1
          · exact (hBW.alloc (by omega) _).grown gr1 (by simp; omega) (fun j e => by simp [Value.ownBlock] at e; omega)
        · have hne : Hid (putL ks x y = ks.take k ++ [(x, y)] ++ ks.drop k) := by
            show putL ks x y = _
            unfold putL
            rw [hN, if_neg]
            intro h
            rw [List.getElem?_eq_getElem hlk, HK.out] at h
            simp at h
            exact huv h
          clear hN
          by_cases hu : u = x
          · have hv : (v == y) = false := by
              have : ¬ v = y := fun e => huv ⟨hu, e⟩
              simpa using this
            subst hu
            go_wp2
            go_quiet (fail)
            have hBf2 : Below w1.heap.size w1 (W.drewN nq) := below_drewN hBf nq
            have f02 : (W.drewN nq).cell? ⟨w.heap.size, 0, none⟩ = some (.int .i64 u) := f0
            have f12 : (W.drewN nq).cell? ⟨w.heap.size, 1, none⟩ = some (.int .i64 y) := f1
            generalize W.drewN nq = W2 at hBf2 f02 f12 ⊢
            clear hBf f0 f1 f2 f3
            have hseg : KSeg g 0 ks W2 := (H1.out.below hB1 hg).below hBf2 (by omega)
            have hsW := hBf2.size
            have hBW : Below w.heap.size w W2 := hB1.trans (hBf2.mono (by omega))
            have hE := emptyK W2 w.heap.size (by omega)
            have hsE : KSeg g 0 (ks.take k) (W2.alloc (.cells #[] 36)) := (hseg.take k).below (one_below _ _) (by omega)
            have tokA : True := trivial
            have tokB : True := trivial
            have HSG : Hid (KSeg g 0 ks W2) := hseg
            have HSE : Hid (KSeg g 0 (ks.take k) (W2.alloc (.cells #[] 36))) := hsE
            have htl : (ks.take k).length = k := by simp; omega
            have HTL : Hid ((ks.take k).length = k) := htl
            clear hseg hsE htl
            go_wp2_with (first
              | (at_builtin; have _t := tokA; clear _t tokA; refine wpList_append_own _ rfl _ _ 24 rfl w.heap.size 36 i0 (.agg #[.int .i64 0, .int .i64 0]) 2 16 Try.underlying24 hi hz0 hz1 hz2 rfl (by decide) (.slice (some ⟨W2.heap.size, 0, none⟩) 0 0) 0 [] rfl hE ⟨g, 0, none⟩ k c (kcells (ks.take k)) rfl (by rw [kcells_length, HTL.out]) (news_keys HSE.out) (one_kcells _) (by unfold maxLen; omega) (by omega) (by simp; omega) ?_; intro v1 wA own1 gr1 nil1; obtain ⟨own1', g0, g1, HSA, hszA, HBA⟩ := put_a hBW HSG.out f02 f12 hg own1 gr1)
              | (at_builtin; have _t := tokB; clear _t tokB; refine wpList_append_own _ rfl _ _ 24 rfl w.heap.size 36 i0 (.agg #[.int .i64 0, .int .i64 0]) 2 16 Try.underlying24 hi hz0 hz1 hz2 rfl (by decide) v1 k (kcells (ks.take k)) rfl (World.ownsRow.alloc own1' _) ⟨wA.heap.size, 0, none⟩ 1 1 [.int .i64 u, .int .i64 y] rfl rfl (cell_two_new _ _ _ _) (by simp [Value.oneCell']) (by unfold maxLen; omega) (by omega) (by simp; omega) ?_; intro v2 wB own2 gr2 nil2; obtain ⟨HSB, hszB, HBB⟩ := put_b HBA.out own1' HSA.out hg gr2)
              | (at_builtin; refine wpList_append_own _ rfl _ _ 24 rfl w.heap.size 36 i0 (.agg #[.int .i64 0, .int .i64 0]) 2 16 Try.underlying24 hi hz0 hz1 hz2 rfl (by decide) v2 (k + 1) _ rfl own2 ⟨g, k * 2, none⟩ (n - k) (c - k) (kcells (ks.drop k)) rfl ?l1 ?l2 (one_kcells _) (by unfold maxLen; omega) (by omega) (by omega) ?_; rotate_left 2; intro v3 wC own3 gr3 nil3))
            case l1 => rw [kcells_length]; simp; omega
            case l2 => exact news_keys (by have := HSB.out.drop k; simpa using this)
            go_ret
            refine ⟨v3, rfl, fun e => ?_, ?_, ?_⟩
            · have := (nil3.1 e).1
              have := (nil2.1 this).2
              omega
            · rw [hne.out]
              unfold Keys
              have e1 : (ks.take k ++ [(u, y)] ++ ks.drop k).length = k + 1 + (n - k) := by simp; omega
              rw [e1, kcells_append, kcells_append]
              exact own3
            · exact HBB.out.grown gr3 hszB (fun j e => (World.ownsRow.lt own2 j e).1)
          · have hu' : (u == x) = false := by simpa using hu
            go_wp2
            go_quiet (fail)
            have hBf2 : Below w1.heap.size w1 (W.drewN nq) := below_drewN hBf nq
            have f02 : (W.drewN nq).cell? ⟨w.heap.size, 0, none⟩ = some (.int .i64 x) := f0
            have f12 : (W.drewN nq).cell? ⟨w.heap.size, 1, none⟩ = some (.int .i64 y) := f1
            generalize W.drewN nq = W2 at hBf2 f02 f12 ⊢
            clear hBf f0 f1 f2 f3
            have hseg : KSeg g 0 ks W2 := (H1.out.below hB1 hg).below hBf2 (by omega)
            have hsW := hBf2.size
            have hBW : Below w.heap.size w W2 := hB1.trans (hBf2.mono (by omega))
            have hE := emptyK W2 w.heap.size (by omega)
            have hsE : KSeg g 0 (ks.take k) (W2.alloc (.cells #[] 36)) := (hseg.take k).below (one_below _ _) (by omega)
            have tokA : True := trivial
            have tokB : True := trivial
            have HSG : Hid (KSeg g 0 ks W2) := hseg
            have HSE : Hid (KSeg g 0 (ks.take k) (W2.alloc (.cells #[] 36))) := hsE
            have htl : (ks.take k).length = k := by simp; omega
            have HTL : Hid ((ks.take k).length = k) := htl
            clear hseg hsE htl
            go_wp2_with (first
              | (at_builtin; have _t := tokA; clear _t tokA; refine wpList_append_own _ rfl _ _ 24 rfl w.heap.size 36 i0 (.agg #[.int .i64 0, .int .i64 0]) 2 16 Try.underlying24 hi hz0 hz1 hz2 rfl (by decide) (.slice (some ⟨W2.heap.size, 0, none⟩) 0 0) 0 [] rfl hE ⟨g, 0, none⟩ k c (kcells (ks.take k)) rfl (by rw [kcells_length, HTL.out]) (news_keys HSE.out) (one_kcells _) (by unfold maxLen; omega) (by omega) (by simp; omega) ?_; intro v1 wA own1 gr1 nil1; obtain ⟨own1', g0, g1, HSA, hszA, HBA⟩ := put_a hBW HSG.out f02 f12 hg own1 gr1)
              | (at_builtin; have _t := tokB; clear _t tokB; refine wpList_append_own _ rfl _ _ 24 rfl w.heap.size 36 i0 (.agg #[.int .i64 0, .int .i64 0]) 2 16 Try.underlying24 hi hz0 hz1 hz2 rfl (by decide) v1 k (kcells (ks.take k)) rfl (World.ownsRow.alloc own1' _) ⟨wA.heap.size, 0, none⟩ 1 1 [.int .i64 x, .int .i64 y] rfl rfl (cell_two_new _ _ _ _) (by simp [Value.oneCell']) (by unfold maxLen; omega) (by omega) (by simp; omega) ?_; intro v2 wB own2 gr2 nil2; obtain ⟨HSB, hszB, HBB⟩ := put_b HBA.out own1' HSA.out hg gr2)
              | (at_builtin; refine wpList_append_own _ rfl _ _ 24 rfl w.heap.size 36 i0 (.agg #[.int .i64 0, .int .i64 0]) 2 16 Try.underlying24 hi hz0 hz1 hz2 rfl (by decide) v2 (k + 1) _ rfl own2 ⟨g, k * 2, none⟩ (n - k) (c - k) (kcells (ks.drop k)) rfl ?l1 ?l2 (one_kcells _) (by unfold maxLen; omega) (by omega) (by omega) ?_; rotate_left 2; intro v3 wC own3 gr3 nil3))
            case l1 => rw [kcells_length]; simp; omega
            case l2 => exact news_keys (by have := HSB.out.drop k; simpa using this)
            go_ret
            refine ⟨v3, rfl, fun e => ?_, ?_, ?_⟩
            · have := (nil3.1 e).1
              have := (nil2.1 this).2
              omega
            · rw [hne.out]
              unfold Keys
              have e1 : (ks.take k ++ [(x, y)] ++ ks.drop k).length = k + 1 + (n - k) := by simp; omega
              rw [e1, kcells_append, kcells_append]
              exact own3
            · exact HBB.out.grown gr3 hszB (fun j e => (World.ownsRow.lt own2 j e).1)
    · have hke : k = n := by omega
      have hN : aheadN ks x y = k := aheadN_eq ks x y k (by omega) HP.out (fun h => by omega)
      have hne : Hid (putL ks x y = ks.take k ++ [(x, y)] ++ ks.drop k) := by
        show putL ks x y = _
        unfold putL
        rw [hN, if_neg]
        intro h
        rw [List.getElem?_eq_none (by omega)] at h
        cases h
      clear hN
      have hkd : decide ((k : Int) < (n : Int)) = false := decide_eq_false (by omega)
      clear hke
      go_wp2
      go_quiet (fail)
      have hBf : Below w1.heap.size w1 (wr.drewN nq) := below_drewN hB nq
      have f0 : (wr.drewN nq).cell? ⟨w.heap.size, 0, none⟩ = some (.int .i64 x) := e0
      have f1 : (wr.drewN nq).cell? ⟨w.heap.size, 1, none⟩ = some (.int .i64 y) := e1
      generalize wr.drewN nq = W at hBf f0 f1 ⊢
      clear hB e0 e1
      go_wp2
      go_quiet (fail)
      by_cases hck : c = k
      · have hck' : (c = k) = True := eq_true hck
        have HCK : Hid (c = k) := hck
        clear hck
        have hBf2 : Below w1.heap.size w1 (W.drewN nq) := below_drewN hBf nq
        have f02 : (W.drewN nq).cell? ⟨w.heap.size, 0, none⟩ = some (.int .i64 x) := f0
        have f12 : (W.drewN nq).cell? ⟨w.heap.size, 1, none⟩ = some (.int .i64 y) := f1
        generalize W.drewN nq = W2 at hBf2 f02 f12 ⊢
        clear hBf f0 f1
        have hseg : KSeg g 0 ks W2 := (H1.out.below hB1 hg).below hBf2 (by omega)
        have hsW := hBf2.size
        have hBW : Below w.heap.size w W2 := hB1.trans (hBf2.mono (by omega))
        have hE := emptyK W2 w.heap.size (by omega)
        have hsE : KSeg g 0 (ks.take k) (W2.alloc (.cells #[] 36)) := (hseg.take k).below (one_below _ _) (by omega)
        have tokA : True := trivial
        have tokB : True := trivial
        have HSG : Hid (KSeg g 0 ks W2) := hseg
        have HSE : Hid (KSeg g 0 (ks.take k) (W2.alloc (.cells #[] 36))) := hsE
        have htl : (ks.take k).length = k := by simp; omega
        have HTL : Hid ((ks.take k).length = k) := htl
        clear hseg hsE htl
        go_wp2_with (first
          | (at_builtin; have _t := tokA; clear _t tokA; refine wpList_append_own _ rfl _ _ 24 rfl w.heap.size 36 i0 (.agg #[.int .i64 0, .int .i64 0]) 2 16 Try.underlying24 hi hz0 hz1 hz2 rfl (by decide) (.slice (some ⟨W2.heap.size, 0, none⟩) 0 0) 0 [] rfl hE ⟨g, 0, none⟩ k c (kcells (ks.take k)) rfl (by rw [kcells_length, HTL.out]) (news_keys HSE.out) (one_kcells _) (by unfold maxLen; omega) (by omega) (by simp; omega) ?_; intro v1 wA own1 gr1 nil1; obtain ⟨own1', g0, g1, HSA, hszA, HBA⟩ := put_a hBW HSG.out f02 f12 hg own1 gr1)
          | (at_builtin; have _t := tokB; clear _t tokB; refine wpList_append_own _ rfl _ _ 24 rfl w.heap.size 36 i0 (.agg #[.int .i64 0, .int .i64 0]) 2 16 Try.underlying24 hi hz0 hz1 hz2 rfl (by decide) v1 k (kcells (ks.take k)) rfl (World.ownsRow.alloc own1' _) ⟨wA.heap.size, 0, none⟩ 1 1 [.int .i64 x, .int .i64 y] rfl rfl (cell_two_new _ _ _ _) (by simp [Value.oneCell']) (by unfold maxLen; omega) (by omega) (by simp; omega) ?_; intro v2 wB own2 gr2 nil2; obtain ⟨HSB, hszB, HBB⟩ := put_b HBA.out own1' HSA.out hg gr2)
          | (at_builtin; refine wpList_append_own _ rfl _ _ 24 rfl w.heap.size 36 i0 (.agg #[.int .i64 0, .int .i64 0]) 2 16 Try.underlying24 hi hz0 hz1 hz2 rfl (by decide) v2 (k + 1) _ rfl own2 ⟨g, 0, none⟩ (n - k) (c - k) (kcells (ks.drop k)) rfl ?l1 ?l2 (one_kcells _) (by unfold maxLen; omega) (by omega) (by omega) ?_; rotate_left 2; intro v3 wC own3 gr3 nil3))
        case l1 => rw [kcells_length]; simp; omega
        case l2 => rw [List.drop_eq_nil_of_le (by omega)]; exact fun j u hu => by simp [kcells] at hu
        go_ret
        refine ⟨v3, rfl, fun e => ?_, ?_, ?_⟩
        · have := (nil3.1 e).1
          have := (nil2.1 this).2
          omega
        · rw [hne.out]
          unfold Keys
          have e1 : (ks.take k ++ [(x, y)] ++ ks.drop k).length = k + 1 + (n - k) := by simp; omega
          rw [e1, kcells_append, kcells_append]
          exact own3
        · exact HBB.out.grown gr3 hszB (fun j e => (World.ownsRow.lt own2 j e).1)
      · have hck' : (c = k) = False := eq_false hck
        have hBf2 : Below w1.heap.size w1 (W.drewN nq) := below_drewN hBf nq
        have f02 : (W.drewN nq).cell? ⟨w.heap.size, 0, none⟩ = some (.int .i64 x) := f0
        have f12 : (W.drewN nq).cell? ⟨w.heap.size, 1, none⟩ = some (.int .i64 y) := f1
        generalize W.drewN nq = W2 at hBf2 f02 f12 ⊢
        clear hBf f0 f1
        have hseg : KSeg g 0 ks W2 := (H1.out.below hB1 hg).below hBf2 (by omega)
        have hsW := hBf2.size
        have hBW : Below w.heap.size w W2 := hB1.trans (hBf2.mono (by omega))
        have hE := emptyK W2 w.heap.size (by omega)
        have hsE : KSeg g 0 (ks.take k) (W2.alloc (.cells #[] 36)) := (hseg.take k).below (one_below _ _) (by omega)
        have tokA : True := trivial
        have tokB : True := trivial
        have HSG : Hid (KSeg g 0 ks W2) := hseg
        have HSE : Hid (KSeg g 0 (ks.take k) (W2.alloc (.cells #[] 36))) := hsE
        have htl : (ks.take k).length = k := by simp; omega
        have HTL : Hid ((ks.take k).length = k) := htl
        clear hseg hsE htl
        go_wp2_with (first
          | (at_builtin; have _t := tokA; clear _t tokA; refine wpList_append_own _ rfl _ _ 24 rfl w.heap.size 36 i0 (.agg #[.int .i64 0, .int .i64 0]) 2 16 Try.underlying24 hi hz0 hz1 hz2 rfl (by decide) (.slice (some ⟨W2.heap.size, 0, none⟩) 0 0) 0 [] rfl hE ⟨g, 0, none⟩ k c (kcells (ks.take k)) rfl (by rw [kcells_length, HTL.out]) (news_keys HSE.out) (one_kcells _) (by unfold maxLen; omega) (by omega) (by simp; omega) ?_; intro v1 wA own1 gr1 nil1; obtain ⟨own1', g0, g1, HSA, hszA, HBA⟩ := put_a hBW HSG.out f02 f12 hg own1 gr1)
          | (at_builtin; have _t := tokB; clear _t tokB; refine wpList_append_own _ rfl _ _ 24 rfl w.heap.size 36 i0 (.agg #[.int .i64 0, .int .i64 0]) 2 16 Try.underlying24 hi hz0 hz1 hz2 rfl (by decide) v1 k (kcells (ks.take k)) rfl (World.ownsRow.alloc own1' _) ⟨wA.heap.size, 0, none⟩ 1 1 [.int .i64 x, .int .i64 y] rfl rfl (cell_two_new _ _ _ _) (by simp [Value.oneCell']) (by unfold maxLen; omega) (by omega) (by simp; omega) ?_; intro v2 wB own2 gr2 nil2; obtain ⟨HSB, hszB, HBB⟩ := put_b HBA.out own1' HSA.out hg gr2)
          | (at_builtin; refine wpList_append_own _ rfl _ _ 24 rfl w.heap.size 36 i0 (.agg #[.int .i64 0, .int .i64 0]) 2 16 Try.underlying24 hi hz0 hz1 hz2 rfl (by decide) v2 (k + 1) _ rfl own2 ⟨g, k * 2, none⟩ (n - k) (c - k) (kcells (ks.drop k)) rfl ?l1 ?l2 (one_kcells _) (by unfold maxLen; omega) (by omega) (by omega) ?_; rotate_left 2; intro v3 wC own3 gr3 nil3))
        case l1 => rw [kcells_length]; simp; omega
        case l2 => exact news_keys (by have := HSB.out.drop k; simpa using this)
        go_ret
        refine ⟨v3, rfl, fun e => ?_, ?_, ?_⟩
        · have := (nil3.1 e).1
          have := (nil2.1 this).2
          omega
        · rw [hne.out]
          unfold Keys
          have e1 : (ks.take k ++ [(x, y)] ++ ks.drop k).length = k + 1 + (n - k) := by simp; omega
          rw [e1, kcells_append, kcells_append]
          exact own3
        · exact HBB.out.grown gr3 hszB (fun j e => (World.ownsRow.lt own2 j e).1)
end Go.Proofs.Ytjilbfohfgalkaa
/- Sets of keys as lists that rise; what can be learned. -/
namespace Go.Proofs.Ytjilbfohfgalkaa
open Go.RowKit

abbrev K2 := Int × Int
/-- One key is ahead of another one. -/
def Ah (a b : K2) : Prop := a.1 < b.1 ∨ a.1 = b.1 ∧ a.2 < b.2
theorem ah_iff (a b : K2) : aheadB a.1 a.2 b.1 b.2 = true ↔ Ah a b := by simp [aheadB, Ah]
theorem Ah.irr (a : K2) : ¬ Ah a a := by unfold Ah; omega
theorem Ah.trans {a b c : K2} (h : Ah a b) (k : Ah b c) : Ah a c := by unfold Ah at *; omega
theorem Ah.tri (a b : K2) : Ah a b ∨ a = b ∨ Ah b a := by
  obtain ⟨a1, a2⟩ := a; obtain ⟨b1, b2⟩ := b
  simp only [Ah, Prod.mk.injEq]
  omega
/-- Keys that rise. -/
def Rise (ks : List K2) : Prop := ks.Pairwise Ah

/-- Two lists that rise with the same members are one. -/
theorem Rise.eq : ∀ {a b : List K2}, Rise a → Rise b → (∀ x, x ∈ a ↔ x ∈ b) → a = b
  | [], [], _, _, _ => rfl
  | [], y :: b, _, _, h => by have := (h y).2 (by simp); simp at this
  | x :: a, [], _, _, h => by have := (h x).1 (by simp); simp at this
  | x :: a, y :: b, ha, hb, h => by
    have ha' := List.pairwise_cons.1 ha
    have hb' := List.pairwise_cons.1 hb
    have e : x = y := by
      rcases Ah.tri x y with t | t | t
      · have := (h x).1 (by simp)
        rcases List.mem_cons.1 this with e | e
        · exact e
        · exact absurd ((hb'.1 x e).trans t) (Ah.irr _)
      · exact t
      · have := (h y).2 (by simp)
        rcases List.mem_cons.1 this with e | e
        · exact e.symm
        · exact absurd ((ha'.1 y e).trans t) (Ah.irr _)
    subst e
    have hx : x ∉ a := fun m => Ah.irr _ (ha'.1 x m)
    have hy : x ∉ b := fun m => Ah.irr _ (hb'.1 x m)
    refine congrArg (x :: ·) (Rise.eq ha'.2 hb'.2 fun z => ⟨fun m => ?_, fun m => ?_⟩)
    · rcases List.mem_cons.1 ((h z).1 (List.mem_cons_of_mem _ m)) with e | e
      · subst e; exact absurd m hx
      · exact e
    · rcases List.mem_cons.1 ((h z).2 (List.mem_cons_of_mem _ m)) with e | e
      · subst e; exact absurd m hy
      · exact e

def putR : List K2 → K2 → List K2
  | [], k => [k]
  | a :: l, k => if aheadB a.1 a.2 k.1 k.2 then a :: putR l k else if a = k then a :: l else k :: a :: l
theorem putL_eq (ks : List K2) (k : K2) : putL ks k.1 k.2 = putR ks k := by
  induction ks with
  | nil => rfl
  | cons a l ih =>
    by_cases h : aheadB a.1 a.2 k.1 k.2 = true
    · have e : aheadN (a :: l) k.1 k.2 = aheadN l k.1 k.2 + 1 := by simp [aheadN, h]
      simp only [putR, h, if_true]
      rw [← ih]
      simp only [putL, e, List.getElem?_cons_succ, List.take_succ_cons, List.drop_succ_cons]
      split <;> simp
    · have e : aheadN (a :: l) k.1 k.2 = 0 := by simp [aheadN, h]
      simp only [putR, h, putL, e, List.getElem?_cons_zero, Option.some.injEq]
      by_cases hk : a = k
      · subst hk; simp
      · have : ¬ a = (k.1, k.2) := hk
        simp [hk]
theorem putR_mem (ks : List K2) (k x : K2) : x ∈ putR ks k ↔ x = k ∨ x ∈ ks := by
  induction ks with
  | nil => simp [putR]
  | cons a l ih =>
    by_cases h : aheadB a.1 a.2 k.1 k.2 = true
    · simp only [putR, h, if_true, List.mem_cons, ih]
      constructor <;> (rintro (h | h | h) <;> simp [h])
    · by_cases hk : a = k
      · subst hk; simp only [putR, h]; simp
      · simp only [putR, h, hk]; simp
theorem putR_rise (ks : List K2) (k : K2) (h : Rise ks) : Rise (putR ks k) := by
  induction ks with
  | nil => simp [putR, Rise]
  | cons a l ih =>
    have h' := List.pairwise_cons.1 h
    by_cases ha : aheadB a.1 a.2 k.1 k.2 = true
    · simp only [putR, ha, if_true]
      refine List.pairwise_cons.2 ⟨fun x hx => ?_, ih h'.2⟩
      rcases (putR_mem l k x).1 hx with e | e
      · subst e; exact (ah_iff _ _).1 ha
      · exact h'.1 x e
    · by_cases hk : a = k
      · subst hk; simpa only [putR, ha, if_true, if_false, Bool.false_eq_true] using h
      · simp only [putR, ha, hk, if_false]
        have hka : Ah k a := by
          rcases Ah.tri k a with t | t | t
          · exact t
          · exact absurd t.symm hk
          · exact absurd ((ah_iff _ _).2 t) ha
        refine List.pairwise_cons.2 ⟨fun x hx => ?_, h⟩
        rcases List.mem_cons.1 hx with e | e
        · subst e; exact hka
        · exact hka.trans (h'.1 x e)
theorem putR_length (ks : List K2) (k : K2) (h : Rise ks) (hn : k ∉ ks) : (putR ks k).length = ks.length + 1 := by
  induction ks with
  | nil => rfl
  | cons a l ih =>
    have h' := List.pairwise_cons.1 h
    simp only [List.mem_cons, not_or] at hn
    by_cases ha : aheadB a.1 a.2 k.1 k.2 = true
    · simp only [putR, ha, if_true, List.length_cons, ih h'.2 hn.2]
    · have : ¬ a = k := fun e => hn.1 e.symm
      simp only [putR, ha, this, if_false, List.length_cons, Bool.false_eq_true]

abbrev wUnder (x : W4) : K2 := (x.1, x.2.1)
abbrev wKey (x : W4) : K2 := (x.2.2.1, x.2.2.2)
/-- What can be learned. -/
def Lrn (ks : List K2) (ws : List W4) (k : K2) : Prop := ∀ S : K2 → Prop, (∀ k ∈ ks, S k) → (∀ x ∈ ws, S (wUnder x) → S (wKey x)) → S k
theorem Lrn.known {ks : List K2} {ws : List W4} (k : K2) (h : k ∈ ks) : Lrn ks ws k := fun _ h1 _ => h1 k h
theorem Lrn.wrap {ks : List K2} {ws : List W4} (x : W4) (h : x ∈ ws) (l : Lrn ks ws (wUnder x)) : Lrn ks ws (wKey x) := fun S h1 h2 => h2 x h (l S h1 h2)
/-- How many wraps are still to open. -/
def left (ws : List W4) (out : List K2) : Nat := (ws.filter fun x => decide (wKey x ∉ out)).length
theorem left_put (ws : List W4) (out : List K2) (x : W4) (hx : x ∈ ws) (hn : wKey x ∉ out) : left ws (putR out (wKey x)) + 1 ≤ left ws out := by
  unfold left
  induction ws with
  | nil => cases hx
  | cons a l ih =>
    have hle : (l.filter fun x' => decide (wKey x' ∉ putR out (wKey x))).length ≤ (l.filter fun x' => decide (wKey x' ∉ out)).length := by
      clear ih hx
      induction l with
      | nil => simp
      | cons b l ih =>
        by_cases h1 : wKey b ∉ putR out (wKey x)
        · have h2 : wKey b ∉ out := fun h => h1 ((putR_mem _ _ _).2 (.inr h))
          rw [List.filter_cons_of_pos (by simpa using h1), List.filter_cons_of_pos (by simpa using h2)]
          simpa using ih
        · rw [List.filter_cons_of_neg (by simpa using h1)]
          by_cases h2 : wKey b ∉ out
          · rw [List.filter_cons_of_pos (by simpa using h2)]
            simp only [List.length_cons]
            omega
          · rw [List.filter_cons_of_neg (by simpa using h2)]
            exact ih
    by_cases e : wKey a = wKey x
    · rw [List.filter_cons_of_neg (by rw [e]; simp [(putR_mem out (wKey x) (wKey x)).2 (.inl rfl)]), List.filter_cons_of_pos (by rw [e]; simpa using hn)]
      simp only [List.length_cons]
      omega
    · have hx' : x ∈ l := by
        rcases List.mem_cons.1 hx with h | h
        · subst h; exact absurd rfl e
        · exact h
      have := ih hx'
      by_cases h1 : wKey a ∉ out
      · have h2 : wKey a ∉ putR out (wKey x) := fun h => by rcases (putR_mem _ _ _).1 h with h | h; exact e h; exact h1 h
        rw [List.filter_cons_of_pos (by simpa using h2), List.filter_cons_of_pos (by simpa using h1)]
        simp only [List.length_cons]
        omega
      · have h2 : ¬ wKey a ∉ putR out (wKey x) := fun h => h1 fun m => h ((putR_mem _ _ _).2 (.inr m))
        rw [List.filter_cons_of_neg (by simpa using h2), List.filter_cons_of_neg (by simpa using h1)]
        exact this
theorem left_le (ws : List W4) (out : List K2) : left ws out ≤ ws.length := List.length_filter_le _ _

/-- What stands of l2Learned's answer on its way. -/
structure Sofar (ks : List K2) (ws : List W4) (out : List K2) : Prop where
  rise : Rise out
  has : ∀ k ∈ ks, k ∈ out
  lrn : ∀ k ∈ out, Lrn ks ws k
  few : out.length + left ws out ≤ ks.length + ws.length
theorem Sofar.start (ks : List K2) (ws : List W4) (h : Rise ks) : Sofar ks ws ks := ⟨h, fun _ h => h, fun k h => Lrn.known k h, by have := left_le ws ks; omega⟩
theorem Sofar.put {ks : List K2} {ws : List W4} {out : List K2} (h : Sofar ks ws out) (x : W4) (hx : x ∈ ws) (hu : wUnder x ∈ out) (hk : wKey x ∉ out) : Sofar ks ws (putR out (wKey x)) ∧ (putR out (wKey x)).length = out.length + 1 := by
  have hl := putR_length out (wKey x) h.rise hk
  refine ⟨⟨putR_rise _ _ h.rise, fun k hk => (putR_mem _ _ _).2 (.inr (h.has k hk)), fun k hm => ?_, ?_⟩, hl⟩
  · rcases (putR_mem _ _ _).1 hm with e | e
    · rw [e]; exact Lrn.wrap x hx (h.lrn _ hu)
    · exact h.lrn k e
  · have := left_put ws out x hx hk
    have := h.few
    omega
theorem Sofar.done {ks : List K2} {ws : List W4} {out : List K2} (h : Sofar ks ws out) (hc : ∀ x ∈ ws, wUnder x ∈ out → wKey x ∈ out) (k : K2) : k ∈ out ↔ Lrn ks ws k := by
  refine ⟨h.lrn k, fun l => ?_⟩
  exact l (fun k => k ∈ out) h.has hc
end Go.Proofs.Ytjilbfohfgalkaa
/- The contract of the model's l2Learned. -/
namespace Go.Proofs.Ytjilbfohfgalkaa
open Go.RowKit

/-- An argument holds these keys: nil, or a row from its block's first cell on. -/
def KArg (v : Value) (ks : List K2) (w : World) : Prop := (v = .slice none 0 0 ∧ ks = []) ∨ ∃ g c, v = .slice (some ⟨g, 0, none⟩) ks.length c ∧ g < w.heap.size ∧ ks.length ≤ c ∧ KSeg g 0 ks w
def WArg (v : Value) (ws : List W4) (w : World) : Prop := (v = .slice none 0 0 ∧ ws = []) ∨ ∃ g c, v = .slice (some ⟨g, 0, none⟩) ws.length c ∧ g < w.heap.size ∧ ws.length ≤ c ∧ WSeg g 0 ws w
theorem KArg.below {v : Value} {ks : List K2} {w w' : World} (h : KArg v ks w) (hb : Below w.heap.size w w') : KArg v ks w' := by
  rcases h with h | ⟨g, c, h1, h2, h3, h4⟩
  · exact .inl h
  · exact .inr ⟨g, c, h1, by have := hb.size; omega, h3, h4.kept (hb.block g h2)⟩
theorem WArg.below {v : Value} {ws : List W4} {w w' : World} (h : WArg v ws w) (hb : Below w.heap.size w w') : WArg v ws w' := by
  rcases h with h | ⟨g, c, h1, h2, h3, h4⟩
  · exact .inl h
  · exact .inr ⟨g, c, h1, by have := hb.size; omega, h3, h4.kept (hb.block g h2)⟩
theorem Keys.arg {B : Nat} {v : Value} {ks : List K2} {w : World} (h : Keys B v ks w) : KArg v ks w := by
  rcases h.form with h | ⟨g, c, h1, _, h2, h3, _, h4, _⟩
  · exact .inl h
  · exact .inr ⟨g, c, h1, h2, h3, h4⟩
theorem Wraps.arg {B : Nat} {v : Value} {ks : List W4} {w : World} (h : Wraps B v ks w) : WArg v ks w := by
  rcases h.form with h | ⟨g, c, h1, _, h2, h3, _, h4, _⟩
  · exact .inl h
  · exact .inr ⟨g, c, h1, h2, h3, h4⟩

/-- Keys with keys appended. -/
theorem wpList_append_keys {w : World} {ops : Array Oper} {rest : List Oper} {o : Oper} {a : Act} {Q : Exit → Act → World → Prop} (hgd : o.guard = none) (s x : Operand)
    (ho : o.op = .call { callee := .builtin .append, args := #[s, x], argTypes := #[24, 24] })
    (base : Nat) (v xv : Value) (ls ks : List K2) (hs : a.eval s = v) (hown : Keys base v ls w) (hx : a.eval x = xv) (hk : KArg xv ks w) (hm : ls.length + ks.length ≤ 1000000) (hbase : base ≤ w.heap.size)
    (h : ∀ v' w', Keys base v' (ls ++ ks) w' → w.grownBy w' v.ownBlock → (v' = .slice none 0 0 ↔ v = .slice none 0 0 ∧ ks.length = 0) → wpList Try.prog ops Q rest (a.put o.dst v') w') : wpList Try.prog ops Q (o :: rest) a w := by
  obtain ⟨i0, hi, hz0, hz1, hz2⟩ := info_parts infoKey
  rcases hk with ⟨rfl, rfl⟩ | ⟨g, c, rfl, hg, hc, hseg⟩
  · refine wpList_append_own_none hgd s x _ ho base 36 i0 2 Try.underlying24 hi v _ _ hs hown hx ?_
    exact h v w (by simpa using hown) (World.grownBy.refl _ _) (by simp)
  · refine wpList_append_own w hgd s x _ ho base 36 i0 (.agg #[.int .i64 0, .int .i64 0]) 2 16 Try.underlying24 hi hz0 hz1 hz2 rfl (by decide) v _ _ hs hown ⟨g, 0, none⟩ ks.length c (kcells ks) hx (kcells_length _) (news_keys hseg) (one_kcells _) (by unfold maxLen; omega) (by omega) hbase ?_
    intro v' w' h1 h2 h3
    refine h v' w' ?_ h2 h3
    unfold Keys
    rw [List.length_append, kcells_append]
    exact h1

theorem hidOf {p : Prop} (h : p) : Hid p := h
def lenV : Value → Nat
  | .slice _ n _ => n
  | _ => 0
def flagV : Value → Nat
  | .bool true => 1
  | _ => 0

/-- What is known within a round of l2Learned: the wrap's cells, the keys so far. -/
def Ls (wB : World) (B g cap : Nat) (out : List K2) (p1 p2 p3 p4 : Addr) (u1 u2 k1 k2 : Int) (W : World) : Prop :=
  W.cell? p1 = some (.int .i64 u1) ∧ W.cell? p2 = some (.int .i64 u2) ∧ W.cell? p3 = some (.int .i64 k1) ∧ W.cell? p4 = some (.int .i64 k2) ∧ (KSeg g 0 out W ∧ g < W.heap.size) ∧
    Keys B (.slice (some ⟨g, 0, none⟩) out.length cap) out W ∧ Below B wB W
theorem Ls.later {wB W W' : World} {B g cap : Nat} {out : List K2} {p1 p2 p3 p4 : Addr} {u1 u2 k1 k2 : Int} (hB : B ≤ W.heap.size) (h : Ls wB B g cap out p1 p2 p3 p4 u1 u2 k1 k2 W) (hb : Below W.heap.size W W') : Ls wB B g cap out p1 p2 p3 p4 u1 u2 k1 k2 W' :=
  ⟨cell_since h.1 hb, cell_since h.2.1 hb, cell_since h.2.2.1 hb, cell_since h.2.2.2.1 hb, ⟨h.2.2.2.2.1.1.kept (hb.block g h.2.2.2.2.1.2), by have := hb.size; have := h.2.2.2.2.1.2; omega⟩,
    h.2.2.2.2.2.1.below hb (fun k e => by simp [Value.ownBlock] at e; subst e; exact h.2.2.2.2.1.2), h.2.2.2.2.2.2.trans (hb.mono hB)⟩

set_option maxRecDepth 100000 in
set_option maxHeartbeats 2000000 in
theorem l2Learned_any (kx wx : Value) (ks : List K2) (ws : List W4) (w : World) (hk : KArg kx ks w) (hw : WArg wx ws w) (hks : ks.length ≤ 200) (hws : ws.length ≤ 400) (hr : Rise ks) :
    Calls Try.prog 54 #[kx, wx] w fun e w' => ∃ v out, e = .returned v ∧ v ≠ .slice none 0 0 ∧ Keys w.heap.size v out w' ∧ Rise out ∧ (∀ k, k ∈ out ↔ Lrn ks ws k) ∧ out.length ≤ 600 ∧ Below w.heap.size w w' := by
  have HK : Hid (KArg kx ks (w.alloc (.cells #[] 36))) := hk.below (one_below _ _)
  have HW : Hid (WArg wx ws w) := hw
  have HR : Hid (Rise ks) := hr
  have hE := emptyK w w.heap.size (Nat.le_refl _)
  clear hk hw hr
  obtain ⟨n, hn⟩ : ∃ n, ws.length = n := ⟨_, rfl⟩
  obtain ⟨aw, cw, hwx⟩ : ∃ aw cw, wx = .slice aw n cw := by
    rcases HW.out with ⟨h, h2⟩ | ⟨g, c, h, _⟩
    · exact ⟨none, 0, by rw [h, ← hn, h2]; rfl⟩
    · exact ⟨_, c, by rw [h, hn]⟩
  subst hwx
  go_enter Try.func54, Try.ntmps54
  go_wp2_with (at_builtin; refine wpList_append_keys rfl _ _ rfl w.heap.size (.slice (some ⟨w.heap.size, 0, none⟩) 0 0) kx [] ks rfl hE rfl HK.out (by simp; omega) (by simp) ?_; intro v1 w1 own1 gr1 nil1)
  have hB1 : Below w.heap.size w w1 := ((Below.refl _ w).alloc (Nat.le_refl _) _).grown gr1 (by simp) (fun j e => by simp [Value.ownBlock] at e; omega)
  have hn1 : v1 ≠ .slice none 0 0 := fun e => by have := (nil1.1 e).1; cases this
  have own1' : Keys w.heap.size v1 ks w1 := by simpa using own1
  have hS0 : Sofar ks ws ks := Sofar.start ks ws HR.out
  clear nil1 own1 gr1 hE HK
  have O1 : Hid (Keys w.heap.size v1 ks w1 ∧ v1 ≠ .slice none 0 0 ∧ Sofar ks ws ks ∧ Below w.heap.size w w1) := ⟨own1', hn1, hS0, hB1⟩
  clear own1' hn1 hS0 hB1
  go_loopw [5, 6] (fun vo vm wr => ∃ out b, vm = .bool b ∧ Hid (b = false → ∀ x ∈ ws, wUnder x ∈ out → wKey x ∈ out) ∧ Hid (Keys w.heap.size vo out wr ∧ vo ≠ .slice none 0 0 ∧ Sofar ks ws out ∧ Below w.heap.size w wr)) (fun vo vm _ => (600 - lenV vo) * 2 + flagV vm)
  case atStart => exact ⟨ks, true, rfl, hidOf fun h => absurd h (by decide), O1⟩
  case round =>
    obtain ⟨out0, b, rfl, HC, HO⟩ := hrel
    clear O1
    cases b with
    | false =>
      go_wp2
      go_ret
      obtain ⟨o1, o2, o3, o4⟩ := HO.out
      exact ⟨_, rfl, o2, out0, o1, o3.rise, fun a b => o3.done (HC.out (by simp)) (a, b), by have := o3.few; omega, o4⟩
    | true =>
      clear HC
      have hlen0 : lenV u5 = out0.length := by
        rcases HO.out.1.form with ⟨e, e2⟩ | ⟨g, c, e, _⟩
        · rw [e, e2]; rfl
        · rw [e]; rfl
      have hf0 := HO.out.2.2.1.few
      go_wp2
      go_loopw [5, 6, 7] (fun vo vm vi wr => ∃ (k : Nat) (out : List K2) (b : Bool), k ≤ n ∧ vi = .int .i64 k ∧ vm = .bool b ∧ Hid (b = false → out = out0 ∧ ∀ i (hi : i < ws.length), i < k → wUnder ws[i] ∈ out → wKey ws[i] ∈ out) ∧ Hid (b = true → out0.length < out.length) ∧
        Hid (Keys w.heap.size vo out wr ∧ vo ≠ .slice none 0 0 ∧ Sofar ks ws out ∧ Below w.heap.size w wr)) (fun _ _ vi _ => n - (intOf vi).toNat)
      case atStart => exact ⟨0, out0, false, Nat.zero_le _, rfl, rfl, hidOf fun _ => ⟨rfl, fun _ _ h => absurd h (Nat.not_lt_zero _)⟩, hidOf fun h => absurd h (by decide), HO⟩
      case round =>
        obtain ⟨k, out, b, hk, rfl, rfl, HC, HG, HI⟩ := hrel
        by_cases hlt : k < n
        · have hlk : k < ws.length := by omega
          obtain ⟨o1, o2, o3, o4⟩ := HI.out
          obtain ⟨g, cap, hv, hBg, hgl, hoc, hcm, hseg⟩ : ∃ g cap, u5 = .slice (some ⟨g, 0, none⟩) out.length cap ∧ w.heap.size ≤ g ∧ g < wr.heap.size ∧ out.length ≤ cap ∧ cap ≤ maxLen ∧ KSeg g 0 out wr := by
            rcases o1.form with ⟨e, _⟩ | ⟨g, c, e, e1, e2, e3, e4, e5, _⟩
            · exact absurd e o2
            · exact ⟨g, c, e, e1, e2, e3, e4, e5⟩
          obtain ⟨gw, haw, hgw, hwseg⟩ : ∃ gw, aw = some ⟨gw, 0, none⟩ ∧ gw < w.heap.size ∧ WSeg gw 0 ws w := by
            rcases HW.out with ⟨_, e⟩ | ⟨gw, c, e, e1, _, e2⟩
            · rw [e] at hlk; simp at hlk
            · injection e with e; exact ⟨gw, e, e1, e2⟩
          subst hv haw
          obtain ⟨a1, a2, a3, a4⟩ := hwseg k hlk
          simp only [Nat.zero_add] at a1 a2 a3 a4
          have hxm : ws[k] ∈ ws := List.getElem_mem hlk
          obtain ⟨u1, u2, k1, k2, hX⟩ : ∃ u1 u2 k1 k2, ws[k] = (u1, u2, k1, k2) := ⟨_, _, _, _, rfl⟩
          have HX : Hid (ws[k] = (u1, u2, k1, k2)) := hX
          have HM : Hid ((u1, u2, k1, k2) ∈ ws) := by rw [hX] at hxm; exact hxm
          rw [hX] at a1 a2 a3 a4
          have hL : Hid (Ls w w.heap.size g cap out ⟨gw, k * 4, none⟩ ⟨gw, k * 4 + 1, none⟩ ⟨gw, k * 4 + 2, none⟩ ⟨gw, k * 4 + 3, none⟩ u1 u2 k1 k2 wr) :=
            ⟨(o4.cell (p := ⟨gw, k * 4, none⟩) hgw).trans a1, (o4.cell (p := ⟨gw, k * 4 + 1, none⟩) hgw).trans a2, (o4.cell (p := ⟨gw, k * 4 + 2, none⟩) hgw).trans a3, (o4.cell (p := ⟨gw, k * 4 + 3, none⟩) hgw).trans a4, ⟨hseg, hgl⟩, o1, o4⟩
          have hsz := o4.size
          have hfew := o3.few
          clear o1 o2 o4 hseg hwseg a1 a2 a3 a4 hX hxm HI
          have c1 := hL.out.1
          have c2 := hL.out.2.1
          go_wp2_with fail
          refine (l2Has_row g cap out u1 u2 wr (by unfold maxLen; omega) hgl hL.out.2.2.2.2.1.1).mono ?_
          rintro e w2 ⟨rfl, hb⟩
          have hL2 : Hid (Ls w w.heap.size g cap out ⟨gw, k * 4, none⟩ ⟨gw, k * 4 + 1, none⟩ ⟨gw, k * 4 + 2, none⟩ ⟨gw, k * 4 + 3, none⟩ u1 u2 k1 k2 w2) := hL.out.later hsz hb
          have hsz2 := hb.size
          clear hb hL c1 c2
          by_cases hu : (u1, u2) ∈ out
          · rw [decide_eq_true hu]
            have c3 := hL2.out.2.2.1
            have c4 := hL2.out.2.2.2.1
            go_wp2_with fail
            refine (l2Has_row g cap out k1 k2 w2 (by unfold maxLen; omega) (by omega) hL2.out.2.2.2.2.1.1).mono ?_
            rintro e w3 ⟨rfl, hb⟩
            have hL3 : Hid (Ls w w.heap.size g cap out ⟨gw, k * 4, none⟩ ⟨gw, k * 4 + 1, none⟩ ⟨gw, k * 4 + 2, none⟩ ⟨gw, k * 4 + 3, none⟩ u1 u2 k1 k2 w3) := hL2.out.later (by omega) hb
            have hsz3 := hb.size
            clear hb hL2 c3 c4
            by_cases hkk : (k1, k2) ∈ out
            · rw [decide_eq_true hkk]
              go_wp2
              go_roundw
              case rel =>
                refine ⟨k + 1, out, b, by omega, by go_num, rfl, hidOf fun hb => ⟨(HC.out hb).1, fun i hi hik hun => ?_⟩, HG, hL3.out.2.2.2.2.2.1, by simp, o3, hL3.out.2.2.2.2.2.2⟩
                by_cases e : i = k
                · subst e; rw [HX.out]; exact hkk
                · exact (HC.out hb).2 i hi (by omega) hun
              case measure => simp [intOf]; omega
            · rw [decide_eq_false hkk]
              have c3 := hL3.out.2.2.1
              have c4 := hL3.out.2.2.2.1
              go_wp2_with fail
              refine (l2Put_row g cap out k1 k2 w3 hoc (by omega) (by omega) hL3.out.2.2.2.2.1.1).mono ?_
              rintro e w4 ⟨v4, rfl, hn4, hk4, hb⟩
              obtain ⟨hS4, hl4⟩ := o3.put _ HM.out hu hkk
              have e4 := putL_eq out (k1, k2)
              simp only at e4
              rw [e4] at hk4
              have H4 : Hid (Keys w.heap.size v4 (putR out (k1, k2)) w4 ∧ v4 ≠ .slice none 0 0 ∧ Sofar ks ws (putR out (k1, k2)) ∧ Below w.heap.size w w4) := ⟨hk4.mono (by omega), hn4, hS4, hL3.out.2.2.2.2.2.2.trans (hb.mono (by omega))⟩
              clear hk4 hn4 hS4 hb e4 hL3 c3 c4
              go_wp2
              go_roundw
              case rel =>
                refine ⟨k + 1, putR out (k1, k2), true, by omega, by go_num, rfl, hidOf fun hb => absurd hb (by decide), hidOf fun _ => ?_, H4⟩
                rw [hl4]
                cases b with
                | false => rw [(HC.out rfl).1]; omega
                | true => have := HG.out rfl; omega
              case measure => simp [intOf]; omega
          · rw [decide_eq_false hu]
            go_wp2
            go_roundw
            case rel =>
              refine ⟨k + 1, out, b, by omega, by go_num, rfl, hidOf fun hb => ⟨(HC.out hb).1, fun i hi hik hun => ?_⟩, HG, hL2.out.2.2.2.2.2.1, by simp, o3, hL2.out.2.2.2.2.2.2⟩
              by_cases e : i = k
              · subst e; rw [HX.out] at hun; exact absurd hun hu
              · exact (HC.out hb).2 i hi (by omega) hun
            case measure => simp [intOf]; omega
        · go_wp2
          have hlen : lenV u5 = out.length := by
            rcases HI.out.1.form with ⟨e, e2⟩ | ⟨g, c, e, _⟩
            · rw [e, e2]; rfl
            · rw [e]; rfl
          have hfew := HI.out.2.2.1.few
          refine ⟨⟨out, b, rfl, hidOf fun hb x hx hu => ?_, HI⟩, ?_⟩
          · obtain ⟨i, hi, rfl⟩ := List.getElem_of_mem hx
            exact (HC.out hb).2 i hi (by omega) hu
          · rw [hlen, hlen0]
            cases b with
            | false => rw [(HC.out rfl).1]; simp [flagV]
            | true => have := HG.out rfl; simp only [flagV]; omega
end Go.Proofs.Ytjilbfohfgalkaa
