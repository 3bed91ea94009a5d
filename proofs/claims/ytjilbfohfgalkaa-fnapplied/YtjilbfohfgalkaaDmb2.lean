/- What the drawn laws of members draw: a member, rekeys, a server. -/
import Derived.Test.YtjilbfohfgalkaaPart7
import Derived.Deep.CutRange
namespace Go.Proofs.Ytjilbfohfgalkaa
open Go.RowKit

theorem rows3 {W : World} {Z A D : Nat} {x y v : Value} {xs : List Int} {ss : List (Int × Int)} {ws : List W4} (h0 : Ints Z x xs W) (h1 : Seats A y ss W) (h2 : Wraps D v ws W) :
    (∀ s, s ∈ [fI Z x xs, fS A y ss, fW D v ws] → s.on W) ∧ [fI Z x xs, fS A y ss, fW D v ws].Pairwise fun r s => ∀ k, r.v.ownBlock = some k → s.v.ownBlock ≠ some k := by
  refine ⟨fun s hs => ?_, List.pairwise_cons.2 ⟨fun s hs => ?_, List.pairwise_cons.2 ⟨fun s hs => ?_, List.pairwise_cons.2 ⟨(fun _ h => by cases h), .nil⟩⟩⟩⟩
  · simp only [List.mem_cons, List.not_mem_nil, or_false] at hs
    rcases hs with rfl | rfl | rfl
    · exact h0
    · exact h1
    · exact h2
  · simp only [List.mem_cons, List.not_mem_nil, or_false] at hs
    rcases hs with rfl | rfl
    · exact rows_ne (r := fI Z x xs) (s := fS A y ss) h0 h1 (show (2 : TypeId) ≠ 90 by decide)
    · exact rows_ne (r := fI Z x xs) (s := fW D v ws) h0 h2 (show (2 : TypeId) ≠ 112 by decide)
  · simp only [List.mem_cons, List.not_mem_nil, or_false] at hs
    subst hs
    exact rows_ne (r := fS A y ss) (s := fW D v ws) h1 h2 (show (90 : TypeId) ≠ 112 by decide)
theorem new_three (w : World) (x y v : Value) (xs : List Int) (ss : List (Int × Int)) (ws : List W4) : ∀ s, s ∈ [fI w.heap.size x xs, fS w.heap.size y ss, fW w.heap.size v ws] → w.heap.size ≤ s.B := fun s hs => by
  simp only [List.mem_cons, List.not_mem_nil, or_false] at hs
  rcases hs with rfl | rfl | rfl <;> exact Nat.le_refl _

theorem Hex.low0 {w0 W : World} {bs : List (Nat × Obj)} {rs : List RowF} {ex r r' : RowF} (H : Hex w0 bs (r :: rs) ex W) (hv : r'.v = r.v) (h : r'.on W) (hB : w0.heap.size ≤ r'.B) : Hex w0 bs (r' :: rs) ex W := by
  refine ⟨H.bel, H.exOn, H.low, H.box, H.new, H.nod, fun s hs => ?_, fun s hs => ?_, List.pairwise_cons.2 ⟨fun s hs k e => (List.pairwise_cons.1 H.apart).1 s hs k (by rw [← hv]; exact e), (List.pairwise_cons.1 H.apart).2⟩, fun p hp s hs => ?_⟩
  · rcases List.mem_cons.1 hs with rfl | hs
    · exact h
    · exact H.row s (List.mem_cons_of_mem _ hs)
  · rcases List.mem_cons.1 hs with rfl | hs
    · exact hB
    · exact H.fresh s (List.mem_cons_of_mem _ hs)
  · rcases List.mem_cons.1 hs with rfl | hs
    · rw [hv]; exact H.off p hp r (by simp)
    · exact H.off p hp s (List.mem_cons_of_mem _ hs)
theorem on_low {B B' : Nat} {v : Value} {es : List RE} {W : World} (h : (fL B v es).on W) (hl : B' ≤ B) : (fL B' v es).on W := by
  refine ⟨h.1, ?_⟩
  rcases h.2 with h | ⟨g, cap, cur, e, h1, h2⟩
  · exact .inl h
  · exact .inr ⟨g, cap, cur, e, Nat.le_trans hl h1, h2⟩
theorem cell_two' (w : World) (x y : Value) (t : TypeId) : ∀ j z, [x, y][j]? = some z → (w.alloc (.cells #[x, y] t)).cell? ((⟨w.heap.size, 0, none⟩ : Addr).add j) = some z := fun j z hj => by
  match j, hj with
  | 0, hj => simp at hj; subst hj; simp [Addr.add]
  | 1, hj => simp at hj; subst hj; simp [Addr.add]
  | j + 2, hj => simp at hj
theorem row_formL {W : World} {B n : Nat} {v : Value} {ys : List Value} (h : W.ownsRow B 29 2 v (n + 1) ys) : ∃ g c, v = .slice (some ⟨g, 0, none⟩) (n + 1) c := by
  rcases h.2 with ⟨_, h0⟩ | ⟨g, cap, cur, e, _⟩
  · simp at h0
  · exact ⟨g, cap, e⟩
theorem fL_on {B n : Nat} {v : Value} {es : List RE} {ys : List Value} {W : World} (h : W.ownsRow B 29 2 v n ys) (hn : es.length = n) (he : recells es = ys) : (fL B v es).on W := by
  subst hn he
  exact h
theorem fL_own {B n : Nat} {v : Value} {es : List RE} {W : World} (h : (fL B v es).on W) (hn : es.length = n) : W.ownsRow B 29 2 v n (recells es) := by
  subst hn
  exact h
theorem iformL {B : Nat} {v : Value} {xs : List Int} {W : World} (h : Ints B v xs W) : ∃ a n c, v = .slice a n c ∧ xs.length = n := by
  obtain ⟨a, c, rfl, _⟩ := h.row
  exact ⟨_, _, _, rfl, rfl⟩
theorem sformL {B : Nat} {v : Value} {xs : List (Int × Int)} {W : World} (h : Seats B v xs W) : ∃ a n c, v = .slice a n c ∧ xs.length = n := by
  rcases h.form with ⟨rfl, rfl⟩ | ⟨g, cap, rfl, _⟩
  · exact ⟨_, _, _, rfl, rfl⟩
  · exact ⟨_, _, _, rfl, rfl⟩
theorem wformL {B : Nat} {v : Value} {ws : List W4} {W : World} (h : Wraps B v ws W) : ∃ a n c, v = .slice a n c := by
  rcases h.form with ⟨rfl, _⟩ | ⟨g, cap, rfl, _⟩
  · exact ⟨_, _, _, rfl⟩
  · exact ⟨_, _, _, rfl⟩
theorem Hex.permB {w0 W : World} {bs bs' : List (Nat × Obj)} {rs : List RowF} {ex : RowF} (H : Hex w0 bs rs ex W) (hp : bs.Perm bs') : Hex w0 bs' rs ex W :=
  ⟨H.bel, H.exOn, H.low, fun p h => H.box p (hp.mem_iff.2 h), fun p h => H.new p (hp.mem_iff.2 h), (hp.pairwise_iff (fun h => h.symm)).1 H.nod, H.row, H.fresh, H.apart, fun p h => H.off p (hp.mem_iff.2 h)⟩
theorem RdX.permB {B R : Nat} {w0 W : World} {bs bs' : List (Nat × Obj)} {rs : List RowF} (h : RdX B R w0 bs rs W) (hp : bs.Perm bs') : RdX B R w0 bs' rs W := h.map fun _ H => H.permB hp
theorem drewSize (w : World) : w.drew.heap.size = w.heap.size := rfl
theorem sCells {W : World} {P : Nat} {a b c : Value} {t : TypeId} (h : W.heap[P]? = some (.cells #[a, b, c] t)) : W.cell? ⟨P, 0, none⟩ = some a ∧ W.cell? ⟨P, 1, none⟩ = some b ∧ W.cell? ⟨P, 2, none⟩ = some c := (box3 h).1
theorem set1K {W : World} {P Q j : Nat} {v1 v2 v3 x : Value} (h : W.cell? ⟨P, 0, none⟩ = some v1 ∧ W.cell? ⟨P, 1, none⟩ = some v2 ∧ W.cell? ⟨P, 2, none⟩ = some v3) (hne : Q ≠ P) : (W.setCell ⟨Q, j, none⟩ x).cell? ⟨P, 0, none⟩ = some v1 ∧ (W.setCell ⟨Q, j, none⟩ x).cell? ⟨P, 1, none⟩ = some v2 ∧ (W.setCell ⟨Q, j, none⟩ x).cell? ⟨P, 2, none⟩ = some v3 :=
  ⟨(grown_set W Q j x).cell h.1 (fun e => by injection e with e; exact hne e.symm), (grown_set W Q j x).cell h.2.1 (fun e => by injection e with e; exact hne e.symm), (grown_set W Q j x).cell h.2.2 (fun e => by injection e with e; exact hne e.symm)⟩
theorem set3K {W : World} {P Q : Nat} {v1 v2 v3 : Value} (h : W.cell? ⟨P, 0, none⟩ = some v1 ∧ W.cell? ⟨P, 1, none⟩ = some v2 ∧ W.cell? ⟨P, 2, none⟩ = some v3) (hne : Q ≠ P) (a b c : Value) : (((W.setCell ⟨Q, 0, none⟩ a).setCell ⟨Q, 1, none⟩ b).setCell ⟨Q, 2, none⟩ c).cell? ⟨P, 0, none⟩ = some v1 ∧ (((W.setCell ⟨Q, 0, none⟩ a).setCell ⟨Q, 1, none⟩ b).setCell ⟨Q, 2, none⟩ c).cell? ⟨P, 1, none⟩ = some v2 ∧ (((W.setCell ⟨Q, 0, none⟩ a).setCell ⟨Q, 1, none⟩ b).setCell ⟨Q, 2, none⟩ c).cell? ⟨P, 2, none⟩ = some v3 := set1K (set1K (set1K h hne) hne) hne
theorem set2K {W : World} {P Q : Nat} {v1 v2 v3 : Value} (h : W.cell? ⟨P, 0, none⟩ = some v1 ∧ W.cell? ⟨P, 1, none⟩ = some v2 ∧ W.cell? ⟨P, 2, none⟩ = some v3) (hne : Q ≠ P) (a b : Value) : ((W.setCell ⟨Q, 0, none⟩ a).setCell ⟨Q, 1, none⟩ b).cell? ⟨P, 0, none⟩ = some v1 ∧ ((W.setCell ⟨Q, 0, none⟩ a).setCell ⟨Q, 1, none⟩ b).cell? ⟨P, 1, none⟩ = some v2 ∧ ((W.setCell ⟨Q, 0, none⟩ a).setCell ⟨Q, 1, none⟩ b).cell? ⟨P, 2, none⟩ = some v3 := set1K (set1K h hne) hne
theorem set3_other {W : World} {p q : Nat} {o : Obj} (h : W.heap[q]? = some o) (hne : q ≠ p) (a b c : Value) : (((W.setCell ⟨p, 0, none⟩ a).setCell ⟨p, 1, none⟩ b).setCell ⟨p, 2, none⟩ c).heap[q]? = some o := blk' (grown_set _ _ _ _) (blk' (grown_set _ _ _ _) (blk' (grown_set _ _ _ _) h hne) hne) hne
theorem later3K {W W' : World} {p1 p2 p3 : Addr} {v1 v2 v3 : Value} (h : W.cell? p1 = some v1 ∧ W.cell? p2 = some v2 ∧ W.cell? p3 = some v3) (hb : Below W.heap.size W W') : W'.cell? p1 = some v1 ∧ W'.cell? p2 = some v2 ∧ W'.cell? p3 = some v3 := ⟨cell_since h.1 hb, cell_since h.2.1 hb, cell_since h.2.2 hb⟩
/-- What is drawn: a member, rekeys, a server, in memory of their own. -/
def MbOut (B R : Nat) (W : World) (e : Ending) (W' : World) : Prop := ∃ (id me ep : Int) (ak : Option Addr) (nk ck bk : Nat) (ks : List (Int × Int)) (al : Option Addr) (nl cl : Nat) (es : List RE) (ax : Option Addr) (nx cx : Nat) (ay : Option Addr) (ny cy bx by' : Nat) (vs : List Int) (ss : List (Int × Int)), e = .returned (.tuple #[mv id me (.slice ak nk ck), (.slice al nl cl), svv ep (.slice ax nx cx) (.slice ay ny cy)]) ∧ ks.length = nk ∧ nk ≤ 5 ∧ es.length = nl ∧ nl ≤ 3 ∧ ss.length = ny ∧ ny ≤ 9 ∧ vs.length = nx ∧ RdX B R W [] (fK bk (.slice ak nk ck) ks :: fL W.heap.size (.slice al nl cl) es :: fI bx (.slice ax nx cx) vs :: fS by' (.slice ay ny cy) ss :: es.map reRow) W'
theorem keys_low {B B' : Nat} {v : Value} {xs : List (Int × Int)} {W : World} (h : (fK B v xs).on W) (hl : B' ≤ B) : (fK B' v xs).on W := by
  refine ⟨h.1, ?_⟩
  rcases h.2 with h | ⟨g, cap, cur, e, h1, h2⟩
  · exact .inl h
  · exact .inr ⟨g, cap, cur, e, Nat.le_trans hl h1, h2⟩
theorem cell_keyM (w : World) (a b : Int) : ∀ j z, [Value.int .i64 a, .int .i64 b][j]? = some z → (w.alloc (.cells #[.int .i64 a, .int .i64 b] 36)).cell? ((⟨w.heap.size, 0, none⟩ : Addr).add j) = some z := cell_two' w _ _ _
set_option maxRecDepth 100000 in
set_option maxHeartbeats 16000000 in
theorem drawMember_any (B R : Nat) (W : World) (h : Q.Rd B R W) :
    Calls Try.prog 18 #[.pointer (some ⟨R, 0, none⟩)] W fun e W' => MbOut B R W e W' := by
  have H1 := hidS (((RdX.start h).alloc (mb 0 0 (.slice none 0 0))).alloc (svb 0 (.slice none 0 0) (.slice none 0 0)))
  simp only [World.size_alloc] at H1
  clear h
  go_enter Try.func18, Try.ntmps18
  go_wp2_with fail
  generalize (W.alloc (mb 0 0 (.slice none 0 0))).alloc (svb 0 (.slice none 0 0) (.slice none 0 0)) = w1 at *
  have hsv := drawServer_any B R 8 w1 H1.out.rd (by omega)
  rw [show (((8 : Nat) : Int)) = 8 from rfl] at hsv
  refine hsv.mono ?_
  clear hsv
  rintro e w3 ⟨ep, ax, cx, ay, ny, cy, vs, ss, rfl, hv15, hny, h9, i3, s3, hR3, hg3⟩
  have H3 := hidS ((H1.out.readRows hR3 hg3 [fI w1.heap.size (.slice ax 15 cx) vs, fS w1.heap.size (.slice ay ny cy) ss] (two_rowsIS i3 s3).1 (new_two _ _ _ _ _) (two_rowsIS i3 s3).2).alloc (svb ep (.slice ax 15 cx) (.slice ay ny cy)))
  clear H1 i3 s3 hR3 hg3
  go_wp2_with fail
  generalize hw4 : w3.alloc (svb ep (.slice ax 15 cx) (.slice ay ny cy)) = w4 at *
  clear hw4
  refine (Q.below_any B R 6 _ H3.out.rd (by omega) (by omega)).mono ?_
  rintro e w5 ⟨n, hn0, hn1, rfl, hR5, hg5⟩
  have H5 := hidS ((H3.out.read hR5 hg5).alloc (mb (1 + n) 0 (.slice none 0 0)))
  clear H3 hR5 hg5
  have hs5 := H5.out.b1
  obtain ⟨⟨o0, o1, o2⟩, e0, e1, e2⟩ := box3 hs5
  go_wp2_with fail
  generalize hid : 1 + n = id at *
  generalize hw6 : w5.alloc (mb id 0 (.slice none 0 0)) = w6 at *
  clear hid hw6
  refine (specKeysFor_any ep id (show Ints w1.heap.size (.slice ax 15 cx) vs w6 from H5.out.r0) (show Seats w1.heap.size (.slice ay ny cy) ss w6 from H5.out.r1)).mono ?_
  rintro e w7 ⟨a7, c7, rfl, k7, b7⟩
  have hl7 := kfL_len ep vs ss id
  obtain ⟨L, hL⟩ : ∃ L, kfL ep vs ss id = L := ⟨_, rfl⟩
  rw [hL] at k7 hl7 ⊢
  clear hL
  have H7 := hidS (H5.out.map fun _ H => H.add b7 (r := fK w6.heap.size (.slice a7 L.length c7) L) k7 (Nat.le_refl _))
  clear H5 k7 b7 hs5 o0 o1 o2 e0 e1 e2
  obtain ⟨⟨m0, m1, m2⟩, mf0, mf1, mf2⟩ := box3 H7.out.b0
  obtain ⟨⟨o0, o1, o2⟩, e0, e1, e2⟩ := box3 H7.out.b1
  generalize kfB ep vs ss id = F
  go_upto_if 29 with fail
  go_cut [9] from 29 (fun s9 wx => ∃ (me : Int) (ak : Option Addr) (nk ck bk : Nat) (ks : List (Int × Int)), ks.length = nk ∧ nk ≤ 4 ∧ Hid (RdX B R W [(w5.heap.size, mb id me (.slice ak nk ck)), (w3.heap.size, svb ep (.slice ax 15 cx) (.slice ay ny cy)), (W.heap.size + 1, (svb 0 (.slice none 0 0) (.slice none 0 0))), (W.heap.size, mb 0 0 (.slice none 0 0))] [fK bk (.slice ak nk ck) ks, fI w1.heap.size (.slice ax 15 cx) vs, fS w1.heap.size (.slice ay ny cy) ss] wx))
  case first =>
    cases F with
    | false =>
      have HF := hidS ((H7.out.sub (List.Sublist.refl _) (.cons _ (List.Sublist.refl _))).map fun _ H => H.add (Below.refl _ _) (r := fK w7.heap.size (.slice none 0 0) []) (World.ownsRow_nil _ _ _ _) (Nat.le_refl _))
      clear H7
      go_wp2_with fail
      go_meet
      exact ⟨0, none, 0, 0, w7.heap.size, [], rfl, by omega, HF⟩
    | true =>
      have HF := hidS (H7.out.map fun _ H => ((H.s300 (.int .i64 id)).s301 (.int .i64 ep)).s302 (.slice a7 L.length c7))
      clear H7
      go_wp2_with fail
      go_meet
      exact ⟨ep, a7, L.length, c7, w6.heap.size, L, rfl, hl7, HF⟩
  case rest =>
    obtain ⟨me, ak, nk, ck, bk, ks, hnk, hk4, HC⟩ := hcut
    clear H7 m0 m1 m2 mf0 mf1 mf2 o0 o1 o2 e0 e1 e2
    have H8 := hidS (HC.out.map fun _ H => H.add (one_below wc (.cells #[] 29)) (r := fL wc.heap.size (.slice (some ⟨wc.heap.size, 0, none⟩) 0 0) []) (litRe wc) (Nat.le_refl _))
    have H8 := hidS (H8.out.map fun _ H => H.low0 (r' := fL W.heap.size (.slice (some ⟨wc.heap.size, 0, none⟩) 0 0) []) rfl (on_low (litRe wc) HC.out.size) (Nat.le_refl _))
    clear HC
    go_wp2_with fail
    generalize hw8 : wc.alloc (.cells #[] 29) = w8 at *
    clear hw8
    refine (Q.below_any B R 4 _ H8.out.rd (by omega) (by omega)).mono ?_
    rintro e w9 ⟨n9, hn0, hn1, rfl, hR9, hg9⟩
    have H9 := hidS (H8.out.read hR9 hg9)
    clear H8 hR9 hg9
    obtain ⟨m9, rfl⟩ : ∃ m : Nat, n9 = (m : Int) := ⟨n9.toNat, by omega⟩
    have HID := hidS hnk
    clear hnk
    go_wp2
    go_loopw [10, 11] (fun lv i wr => ∃ (j : Nat) (ep : Int) (ax : Option Addr) (nx cx : Nat) (ay : Option Addr) (ny cy bx by' : Nat) (vs : List Int) (ss : List (Int × Int)) (al : Option Addr) (nl cl : Nat) (es : List RE), lv = (.slice al nl cl) ∧ i = .int .i64 (j : Int) ∧ nl + j ≤ 3 ∧ es.length = nl ∧ ss.length = ny ∧ ny ≤ 9 ∧ vs.length = nx ∧ Hid (RdX B R W [(w5.heap.size, mb id me (.slice ak nk ck)), (w3.heap.size, svb ep (.slice ax nx cx) (.slice ay ny cy)), (W.heap.size + 1, (svb 0 (.slice none 0 0) (.slice none 0 0))), (W.heap.size, mb 0 0 (.slice none 0 0))] (fL W.heap.size (.slice al nl cl) es :: fK bk (.slice ak nk ck) ks :: fI bx (.slice ax nx cx) vs :: fS by' (.slice ay ny cy) ss :: es.map reRow) wr)) (fun _ i _ => (intOf i).toNat)
    case atStart => exact ⟨m9, ep, ax, 15, cx, ay, ny, cy, w1.heap.size, w1.heap.size, vs, ss, some ⟨wc.heap.size, 0, none⟩, 0, 0, [], rfl, rfl, by omega, rfl, hny, h9, hv15, H9⟩
    case round =>
      clear H9 hny h9 hv15
      obtain ⟨j, ep, ax, nx, cx, ay, ny, cy, bx, by', vs, ss, al, nl, cl, es, rfl, rfl, hj3, hes, hny, h9, hnx, HX⟩ := hrel
      by_cases hj0 : j = 0
      · subst hj0
        obtain ⟨i0, hii, hz0, hz1, hz2⟩ := info_parts infoK
        have H14 := hidS ((HX.out.perm (List.Perm.swap _ _ _)).map fun _ H => H.low0 (r' := fK W.heap.size (.slice ak nk ck) ks) rfl (keys_low (H.row (fK bk (.slice ak nk ck) ks) (by simp)) (H.fresh (fK bk (.slice ak nk ck) ks) (by simp))) (Nat.le_refl _))
        clear HX
        go_wp2_with fail
        refine (Q.once_any B R 30 _ H14.out.rd (by omega) (by omega)).mono ?_
        rintro e w15 ⟨fl, rfl, hR15, hg15⟩
        have H15 := hidS (H14.out.read hR15 hg15)
        clear H14 hR15 hg15
        go_upto_if 59 with fail
        go_cut [10] from 59 (fun s10 wx => ∃ (ak : Option Addr) (nk ck : Nat) (ks : List (Int × Int)), s10 = (.slice al nl cl) ∧ ks.length = nk ∧ nk ≤ 5 ∧ Hid (RdX B R W [(w5.heap.size, mb id me (.slice ak nk ck)), (w3.heap.size, svb ep (.slice ax nx cx) (.slice ay ny cy)), (W.heap.size + 1, (svb 0 (.slice none 0 0) (.slice none 0 0))), (W.heap.size, mb 0 0 (.slice none 0 0))] (fK W.heap.size (.slice ak nk ck) ks :: fL W.heap.size (.slice al nl cl) es :: fI bx (.slice ax nx cx) vs :: fS by' (.slice ay ny cy) ss :: es.map reRow) wx))
        case first =>
          cases fl with
          | false =>
            go_wp2_with fail
            go_meet
            exact ⟨ak, nk, ck, ks, rfl, HID.out, by omega, H15⟩
          | true =>
            go_upto_region 16 with fail
            refine wp_region_any (by kernel_rfl) ?_
            try (change wpAny _ _ _ _ _ _ _ (World.drew _))
            have X0 := hidS (H15.out.drew)
            clear H15
            generalize World.drew w15 = x0 at X0 ⊢
            refine wpAny_take (i := 0) (v := (.pointer (some ⟨w5.heap.size, 2, none⟩))) rfl (by kernel_rfl) (by kernel_rfl) (by kernel_rfl) (fun _ _ _ h => h) (Or.inl ⟨by rfl, fun w => by go_simp⟩) ?_
            refine wpAny_take (i := 2) (v := .pointer (some ⟨R, 0, none⟩)) rfl (by kernel_rfl) (by kernel_rfl) (by kernel_rfl) (fun _ _ _ h => h) (Or.inl ⟨by rfl, fun w => by go_simp⟩) ?_
            refine wpAny_ready (rs := [1, 3]) (by kernel_rfl) (by simp) ?_
            refine AllReady.cons rfl (fun K hK => ?_) (AllReady.cons rfl (fun K hK => ?_) AllReady.nil)
            · obtain ⟨⟨m0, m1, m2⟩, mf0, mf1, mf2⟩ := box3 (X0.out.b0)
              go_simp
              refine hK _ _ ?_
              clear hK K m0 m1 m2 mf0 mf1 mf2
              refine wpAny_ready (rs := [3]) (by kernel_rfl) (by simp) ?_
              refine AllReady.cons rfl (fun K hK => ?_) AllReady.nil
              · go_simp
                refine (Q.key_any B R _ X0.out.rd).mono ?_
                rintro e y0 ⟨kn, kw, _, _, _, rfl, hRk, hgk⟩
                have X1 := hidS (X0.out.read hRk hgk)
                clear hRk hgk X0
                refine hK _ _ ?_
                clear hK K
                refine wpAny_ready (rs := [4]) (by kernel_rfl) (by simp) ?_
                refine AllReady.cons rfl (fun K hK => ?_) AllReady.nil
                · go_simp
                  refine hK _ _ ?_
                  clear hK K
                  refine wpAny_ready (rs := [5]) (by kernel_rfl) (by simp) ?_
                  refine AllReady.cons rfl (fun K hK => ?_) AllReady.nil
                  refine step_append_k _ (by rfl) _ _ _ (by rfl) W.heap.size 36 i0 (.agg #[.int .i64 0, .int .i64 0]) 2 16 Try.underlying24 hii hz0 hz1 hz2 rfl (by omega) (.slice ak nk ck) nk _ (by rfl) (keys_own (show Keys W.heap.size (.slice ak nk ck) ks y0 from X1.out.r0) HID.out _) ⟨y0.heap.size, 0, none⟩ 1 _ [.int .i64 kn, .int .i64 kw] (by rfl) (by rfl) (cell_keyM _ _ _) (by simp [Value.oneCell']) (by omega) (by unfold maxLen; omega) (by omega) (by have := X1.out.size; simp; omega) _ rfl ?_
                  intro gB cB wB hownB hgB hatB hltB
                  refine hK _ _ ?_
                  clear hK K
                  have H16 := hidS ((X1.out.since (one_below y0 (.cells #[.int .i64 kn, .int .i64 kw] 36))).map fun _ H => Hex.turn0 (r := fK W.heap.size (.slice ak nk ck) ks) (r' := fK W.heap.size (.slice (some ⟨gB, 0, none⟩) (nk + 1) cB) (ks ++ [(kn, kw)])) H hgB (keys_of hownB (by rw [kcells_append]; rfl) (by rw [List.length_append, HID.out]; rfl)) rfl ⟨fun s hs0 => by
                    have hs : s ∈ fL W.heap.size (.slice al nl cl) es :: fI bx (.slice ax nx cx) vs :: fS by' (.slice ay ny cy) ss :: es.map reRow := hs0
                    simp only [List.mem_cons] at hs
                    rcases hs with rfl | rfl | rfl | hs
                    · exact (by decide : (29 : TypeId) ≠ 36)
                    · exact (by decide : (2 : TypeId) ≠ 36)
                    · exact (by decide : (90 : TypeId) ≠ 36)
                    · exact re_types es (by decide : (112 : TypeId) ≠ 36) s hs, fun p hp0 => by
                    have hp : p ∈ [(w5.heap.size, mb id me (.slice ak nk ck)), (w3.heap.size, svb ep (.slice ax nx cx) (.slice ay ny cy)), (W.heap.size + 1, (svb 0 (.slice none 0 0) (.slice none 0 0))), (W.heap.size, mb 0 0 (.slice none 0 0))] := hp0
                    simp only [List.mem_cons, List.not_mem_nil, or_false] at hp
                    rcases hp with rfl | rfl | rfl | rfl <;> simp [objType]⟩)
                  obtain ⟨⟨m0, m1, m2⟩, mf0, mf1, mf2⟩ := box3 H16.out.b0
                  have H17 := hidS (H16.out.map fun _ H => H.s302 (.slice (some ⟨gB, 0, none⟩) (nk + 1) cB))
                  clear H16 X1
                  refine wpAny_take (i := 6) (v := (.pointer (some ⟨w5.heap.size, 2, none⟩))) rfl (by kernel_rfl) (by kernel_rfl) (by kernel_rfl) (fun _ _ _ h => h) (Or.inl ⟨by rfl, fun w => by go_simp⟩) ?_
                  refine wpAny_ready (rs := [7]) (by kernel_rfl) (by simp) ?_
                  refine AllReady.cons rfl (fun K hK => ?_) AllReady.nil
                  go_simp
                  refine hK _ _ ?_
                  clear hK K
                  refine wpAny_done (by kernel_rfl) ?_ _
                  go_wp2_with fail
                  go_meet
                  exact ⟨some ⟨gB, 0, none⟩, nk + 1, cB, ks ++ [(kn, kw)], rfl, by rw [List.length_append, HID.out]; rfl, by omega, H17⟩
            · go_simp
              refine (Q.key_any B R _ X0.out.rd).mono ?_
              rintro e y0 ⟨kn, kw, _, _, _, rfl, hRk, hgk⟩
              have X1 := hidS (X0.out.read hRk hgk)
              clear hRk hgk X0
              refine hK _ _ ?_
              clear hK K
              refine wpAny_ready (rs := [1, 4]) (by kernel_rfl) (by simp) ?_
              refine AllReady.cons rfl (fun K hK => ?_) (AllReady.cons rfl (fun K hK => ?_) AllReady.nil)
              · obtain ⟨⟨m0, m1, m2⟩, mf0, mf1, mf2⟩ := box3 (X1.out.b0)
                go_simp
                refine hK _ _ ?_
                clear hK K m0 m1 m2 mf0 mf1 mf2
                refine wpAny_ready (rs := [4]) (by kernel_rfl) (by simp) ?_
                refine AllReady.cons rfl (fun K hK => ?_) AllReady.nil
                · go_simp
                  refine hK _ _ ?_
                  clear hK K
                  refine wpAny_ready (rs := [5]) (by kernel_rfl) (by simp) ?_
                  refine AllReady.cons rfl (fun K hK => ?_) AllReady.nil
                  refine step_append_k _ (by rfl) _ _ _ (by rfl) W.heap.size 36 i0 (.agg #[.int .i64 0, .int .i64 0]) 2 16 Try.underlying24 hii hz0 hz1 hz2 rfl (by omega) (.slice ak nk ck) nk _ (by rfl) (keys_own (show Keys W.heap.size (.slice ak nk ck) ks y0 from X1.out.r0) HID.out _) ⟨y0.heap.size, 0, none⟩ 1 _ [.int .i64 kn, .int .i64 kw] (by rfl) (by rfl) (cell_keyM _ _ _) (by simp [Value.oneCell']) (by omega) (by unfold maxLen; omega) (by omega) (by have := X1.out.size; simp; omega) _ rfl ?_
                  intro gB cB wB hownB hgB hatB hltB
                  refine hK _ _ ?_
                  clear hK K
                  have H16 := hidS ((X1.out.since (one_below y0 (.cells #[.int .i64 kn, .int .i64 kw] 36))).map fun _ H => Hex.turn0 (r := fK W.heap.size (.slice ak nk ck) ks) (r' := fK W.heap.size (.slice (some ⟨gB, 0, none⟩) (nk + 1) cB) (ks ++ [(kn, kw)])) H hgB (keys_of hownB (by rw [kcells_append]; rfl) (by rw [List.length_append, HID.out]; rfl)) rfl ⟨fun s hs0 => by
                    have hs : s ∈ fL W.heap.size (.slice al nl cl) es :: fI bx (.slice ax nx cx) vs :: fS by' (.slice ay ny cy) ss :: es.map reRow := hs0
                    simp only [List.mem_cons] at hs
                    rcases hs with rfl | rfl | rfl | hs
                    · exact (by decide : (29 : TypeId) ≠ 36)
                    · exact (by decide : (2 : TypeId) ≠ 36)
                    · exact (by decide : (90 : TypeId) ≠ 36)
                    · exact re_types es (by decide : (112 : TypeId) ≠ 36) s hs, fun p hp0 => by
                    have hp : p ∈ [(w5.heap.size, mb id me (.slice ak nk ck)), (w3.heap.size, svb ep (.slice ax nx cx) (.slice ay ny cy)), (W.heap.size + 1, (svb 0 (.slice none 0 0) (.slice none 0 0))), (W.heap.size, mb 0 0 (.slice none 0 0))] := hp0
                    simp only [List.mem_cons, List.not_mem_nil, or_false] at hp
                    rcases hp with rfl | rfl | rfl | rfl <;> simp [objType]⟩)
                  obtain ⟨⟨m0, m1, m2⟩, mf0, mf1, mf2⟩ := box3 H16.out.b0
                  have H17 := hidS (H16.out.map fun _ H => H.s302 (.slice (some ⟨gB, 0, none⟩) (nk + 1) cB))
                  clear H16 X1
                  refine wpAny_take (i := 6) (v := (.pointer (some ⟨w5.heap.size, 2, none⟩))) rfl (by kernel_rfl) (by kernel_rfl) (by kernel_rfl) (fun _ _ _ h => h) (Or.inl ⟨by rfl, fun w => by go_simp⟩) ?_
                  refine wpAny_ready (rs := [7]) (by kernel_rfl) (by simp) ?_
                  refine AllReady.cons rfl (fun K hK => ?_) AllReady.nil
                  go_simp
                  refine hK _ _ ?_
                  clear hK K
                  refine wpAny_done (by kernel_rfl) ?_ _
                  go_wp2_with fail
                  go_meet
                  exact ⟨some ⟨gB, 0, none⟩, nk + 1, cB, ks ++ [(kn, kw)], rfl, by rw [List.length_append, HID.out]; rfl, by omega, H17⟩
              · go_simp
                refine hK _ _ ?_
                clear hK K
                refine wpAny_ready (rs := [1]) (by kernel_rfl) (by simp) ?_
                refine AllReady.cons rfl (fun K hK => ?_) AllReady.nil
                · obtain ⟨⟨m0, m1, m2⟩, mf0, mf1, mf2⟩ := box3 ((X1.out.since (one_below y0 (.cells #[.int .i64 kn, .int .i64 kw] 36))).b0)
                  go_simp
                  refine hK _ _ ?_
                  clear hK K m0 m1 m2 mf0 mf1 mf2
                  refine wpAny_ready (rs := [5]) (by kernel_rfl) (by simp) ?_
                  refine AllReady.cons rfl (fun K hK => ?_) AllReady.nil
                  refine step_append_k _ (by rfl) _ _ _ (by rfl) W.heap.size 36 i0 (.agg #[.int .i64 0, .int .i64 0]) 2 16 Try.underlying24 hii hz0 hz1 hz2 rfl (by omega) (.slice ak nk ck) nk _ (by rfl) (keys_own (show Keys W.heap.size (.slice ak nk ck) ks y0 from X1.out.r0) HID.out _) ⟨y0.heap.size, 0, none⟩ 1 _ [.int .i64 kn, .int .i64 kw] (by rfl) (by rfl) (cell_keyM _ _ _) (by simp [Value.oneCell']) (by omega) (by unfold maxLen; omega) (by omega) (by have := X1.out.size; simp; omega) _ rfl ?_
                  intro gB cB wB hownB hgB hatB hltB
                  refine hK _ _ ?_
                  clear hK K
                  have H16 := hidS ((X1.out.since (one_below y0 (.cells #[.int .i64 kn, .int .i64 kw] 36))).map fun _ H => Hex.turn0 (r := fK W.heap.size (.slice ak nk ck) ks) (r' := fK W.heap.size (.slice (some ⟨gB, 0, none⟩) (nk + 1) cB) (ks ++ [(kn, kw)])) H hgB (keys_of hownB (by rw [kcells_append]; rfl) (by rw [List.length_append, HID.out]; rfl)) rfl ⟨fun s hs0 => by
                    have hs : s ∈ fL W.heap.size (.slice al nl cl) es :: fI bx (.slice ax nx cx) vs :: fS by' (.slice ay ny cy) ss :: es.map reRow := hs0
                    simp only [List.mem_cons] at hs
                    rcases hs with rfl | rfl | rfl | hs
                    · exact (by decide : (29 : TypeId) ≠ 36)
                    · exact (by decide : (2 : TypeId) ≠ 36)
                    · exact (by decide : (90 : TypeId) ≠ 36)
                    · exact re_types es (by decide : (112 : TypeId) ≠ 36) s hs, fun p hp0 => by
                    have hp : p ∈ [(w5.heap.size, mb id me (.slice ak nk ck)), (w3.heap.size, svb ep (.slice ax nx cx) (.slice ay ny cy)), (W.heap.size + 1, (svb 0 (.slice none 0 0) (.slice none 0 0))), (W.heap.size, mb 0 0 (.slice none 0 0))] := hp0
                    simp only [List.mem_cons, List.not_mem_nil, or_false] at hp
                    rcases hp with rfl | rfl | rfl | rfl <;> simp [objType]⟩)
                  obtain ⟨⟨m0, m1, m2⟩, mf0, mf1, mf2⟩ := box3 H16.out.b0
                  have H17 := hidS (H16.out.map fun _ H => H.s302 (.slice (some ⟨gB, 0, none⟩) (nk + 1) cB))
                  clear H16 X1
                  refine wpAny_take (i := 6) (v := (.pointer (some ⟨w5.heap.size, 2, none⟩))) rfl (by kernel_rfl) (by kernel_rfl) (by kernel_rfl) (fun _ _ _ h => h) (Or.inl ⟨by rfl, fun w => by go_simp⟩) ?_
                  refine wpAny_ready (rs := [7]) (by kernel_rfl) (by simp) ?_
                  refine AllReady.cons rfl (fun K hK => ?_) AllReady.nil
                  go_simp
                  refine hK _ _ ?_
                  clear hK K
                  refine wpAny_done (by kernel_rfl) ?_ _
                  go_wp2_with fail
                  go_meet
                  exact ⟨some ⟨gB, 0, none⟩, nk + 1, cB, ks ++ [(kn, kw)], rfl, by rw [List.length_append, HID.out]; rfl, by omega, H17⟩
        case rest =>
          obtain ⟨ak, nk, ck, ks, rfl, hnk5, hk5, HC⟩ := hcut
          clear H15
          go_upto_region 17 with fail
          refine wp_region_any (by kernel_rfl) ?_
          try (change wpAny _ _ _ _ _ _ _ (World.drew _))
          have X0 := hidS (HC.out.drew)
          clear HC
          generalize World.drew wc = x0 at X0 ⊢
          obtain ⟨⟨m0, m1, m2⟩, mf0, mf1, mf2⟩ := box3 X0.out.b0
          obtain ⟨⟨o0, o1, o2⟩, e0, e1, e2⟩ := box3 X0.out.b1
          obtain ⟨⟨p0, p1, p2⟩, f0, f1, f2⟩ := box3 (X0.out.at fun _ H => H.b3)
          have H17 := hidS (X0.out.map fun _ H => ((H.s330 (.int .i64 id)).s331 (.int .i64 me)).s332 (.slice ak nk ck))
          have H18 := hidS (H17.out.map fun _ H => ((H.s320 (.int .i64 ep)).s321 (.slice ax nx cx)).s322 (.slice ay ny cy))
          clear X0
          refine wpAny_take (i := 1) (v := (.slice al nl cl)) rfl (by kernel_rfl) (by kernel_rfl) (by kernel_rfl) (fun _ _ _ h => h) (Or.inl ⟨by rfl, fun w => by go_simp⟩) ?_
          refine wpAny_ready (rs := [0, 2]) (by kernel_rfl) (by simp) ?_
          refine AllReady.cons rfl (fun K hK => ?_) (AllReady.cons rfl (fun K hK => ?_) AllReady.nil)
          · go_simp
            refine hK _ _ ?_
            clear hK K
            refine wpAny_ready (rs := [2, 3]) (by kernel_rfl) (by simp) ?_
            refine AllReady.cons rfl (fun K hK => ?_) (AllReady.cons rfl (fun K hK => ?_) AllReady.nil)
            · go_simp
              refine hK _ _ ?_
              clear hK K
              refine wpAny_ready (rs := [3]) (by kernel_rfl) (by simp) ?_
              refine AllReady.cons rfl (fun K hK => ?_) AllReady.nil
              · go_simp
                refine hK _ _ ?_
                clear hK K
                clear m0 m1 m2 mf0 mf1 mf2 o0 o1 o2 e0 e1 e2 p0 p1 p2 f0 f1 f2
                generalize ((x0.setCell ⟨W.heap.size, 0, none⟩ (.int .i64 id)).setCell ⟨W.heap.size, 1, none⟩ (.int .i64 me)).setCell ⟨W.heap.size, 2, none⟩ (.slice ak nk ck) = x1 at H17 H18 ⊢
                obtain ⟨⟨m0, m1, m2⟩, mf0, mf1, mf2⟩ := box3 H17.out.b0
                obtain ⟨⟨o0, o1, o2⟩, e0, e1, e2⟩ := box3 H17.out.b1
                obtain ⟨⟨p0, p1, p2⟩, f0, f1, f2⟩ := box3 H17.out.b2
                refine wpAny_ready (rs := [4]) (by kernel_rfl) (by simp) ?_
                refine AllReady.cons rfl (fun K hK => ?_) AllReady.nil
                · go_simp
                  refine hK _ _ ?_
                  clear hK K
                  refine wpAny_ready (rs := [5]) (by kernel_rfl) (by simp) ?_
                  refine AllReady.cons rfl (fun K hK => ?_) AllReady.nil
                  · go_simp
                    refine hK _ _ ?_
                    clear hK K
                    clear m0 m1 m2 mf0 mf1 mf2 o0 o1 o2 e0 e1 e2 p0 p1 p2 f0 f1 f2
                    refine wpAny_done (by kernel_rfl) ?_ _
                    generalize ((x1.setCell ⟨W.heap.size + 1, 0, none⟩ (.int .i64 ep)).setCell ⟨W.heap.size + 1, 1, none⟩ (.slice ax nx cx)).setCell ⟨W.heap.size + 1, 2, none⟩ (.slice ay ny cy) = x2 at H18 ⊢
                    clear H17
                    obtain ⟨⟨p0, p1, p2⟩, _, _, _⟩ := box3 H18.out.b2
                    obtain ⟨⟨q0, q1, q2⟩, _, _, _⟩ := box3 (H18.out.at fun _ H => H.b3)
                    have P0 := hidS p0
                    have P1 := hidS p1
                    have P2 := hidS p2
                    have Q0 := hidS q0
                    have Q1 := hidS q1
                    have Q2 := hidS q2
                    clear p0 p1 p2 q0 q1 q2
                    go_wp2
                    exact bodyPost_ret (v := .tuple #[mv id me (.slice ak nk ck), (.slice al nl cl), svv ep (.slice ax nx cx) (.slice ay ny cy)]) (by simp [results, Try.results18, go_sem, P0.out, P1.out, P2.out, Q0.out, Q1.out, Q2.out]) rfl ⟨id, me, ep, ak, nk, ck, W.heap.size, ks, al, nl, cl, es, ax, nx, cx, ay, ny, cy, bx, by', vs, ss, rfl, hnk5, hk5, hes, by omega, hny, h9, hnx, H18.out.sub (List.nil_sublist _) (List.Sublist.refl _)⟩
            · go_simp
              refine hK _ _ ?_
              clear hK K
              clear m0 m1 m2 mf0 mf1 mf2 o0 o1 o2 e0 e1 e2 p0 p1 p2 f0 f1 f2
              generalize ((x0.setCell ⟨W.heap.size, 0, none⟩ (.int .i64 id)).setCell ⟨W.heap.size, 1, none⟩ (.int .i64 me)).setCell ⟨W.heap.size, 2, none⟩ (.slice ak nk ck) = x1 at H17 H18 ⊢
              obtain ⟨⟨m0, m1, m2⟩, mf0, mf1, mf2⟩ := box3 H17.out.b0
              obtain ⟨⟨o0, o1, o2⟩, e0, e1, e2⟩ := box3 H17.out.b1
              obtain ⟨⟨p0, p1, p2⟩, f0, f1, f2⟩ := box3 H17.out.b2
              refine wpAny_ready (rs := [2, 4]) (by kernel_rfl) (by simp) ?_
              refine AllReady.cons rfl (fun K hK => ?_) (AllReady.cons rfl (fun K hK => ?_) AllReady.nil)
              · go_simp
                refine hK _ _ ?_
                clear hK K
                refine wpAny_ready (rs := [4]) (by kernel_rfl) (by simp) ?_
                refine AllReady.cons rfl (fun K hK => ?_) AllReady.nil
                · go_simp
                  refine hK _ _ ?_
                  clear hK K
                  refine wpAny_ready (rs := [5]) (by kernel_rfl) (by simp) ?_
                  refine AllReady.cons rfl (fun K hK => ?_) AllReady.nil
                  · go_simp
                    refine hK _ _ ?_
                    clear hK K
                    clear m0 m1 m2 mf0 mf1 mf2 o0 o1 o2 e0 e1 e2 p0 p1 p2 f0 f1 f2
                    refine wpAny_done (by kernel_rfl) ?_ _
                    generalize ((x1.setCell ⟨W.heap.size + 1, 0, none⟩ (.int .i64 ep)).setCell ⟨W.heap.size + 1, 1, none⟩ (.slice ax nx cx)).setCell ⟨W.heap.size + 1, 2, none⟩ (.slice ay ny cy) = x2 at H18 ⊢
                    clear H17
                    obtain ⟨⟨p0, p1, p2⟩, _, _, _⟩ := box3 H18.out.b2
                    obtain ⟨⟨q0, q1, q2⟩, _, _, _⟩ := box3 (H18.out.at fun _ H => H.b3)
                    have P0 := hidS p0
                    have P1 := hidS p1
                    have P2 := hidS p2
                    have Q0 := hidS q0
                    have Q1 := hidS q1
                    have Q2 := hidS q2
                    clear p0 p1 p2 q0 q1 q2
                    go_wp2
                    exact bodyPost_ret (v := .tuple #[mv id me (.slice ak nk ck), (.slice al nl cl), svv ep (.slice ax nx cx) (.slice ay ny cy)]) (by simp [results, Try.results18, go_sem, P0.out, P1.out, P2.out, Q0.out, Q1.out, Q2.out]) rfl ⟨id, me, ep, ak, nk, ck, W.heap.size, ks, al, nl, cl, es, ax, nx, cx, ay, ny, cy, bx, by', vs, ss, rfl, hnk5, hk5, hes, by omega, hny, h9, hnx, H18.out.sub (List.nil_sublist _) (List.Sublist.refl _)⟩
              · go_simp
                refine hK _ _ ?_
                clear hK K
                refine wpAny_ready (rs := [2]) (by kernel_rfl) (by simp) ?_
                refine AllReady.cons rfl (fun K hK => ?_) AllReady.nil
                · go_simp
                  refine hK _ _ ?_
                  clear hK K
                  refine wpAny_ready (rs := [5]) (by kernel_rfl) (by simp) ?_
                  refine AllReady.cons rfl (fun K hK => ?_) AllReady.nil
                  · go_simp
                    refine hK _ _ ?_
                    clear hK K
                    clear m0 m1 m2 mf0 mf1 mf2 o0 o1 o2 e0 e1 e2 p0 p1 p2 f0 f1 f2
                    refine wpAny_done (by kernel_rfl) ?_ _
                    generalize ((x1.setCell ⟨W.heap.size + 1, 0, none⟩ (.int .i64 ep)).setCell ⟨W.heap.size + 1, 1, none⟩ (.slice ax nx cx)).setCell ⟨W.heap.size + 1, 2, none⟩ (.slice ay ny cy) = x2 at H18 ⊢
                    clear H17
                    obtain ⟨⟨p0, p1, p2⟩, _, _, _⟩ := box3 H18.out.b2
                    obtain ⟨⟨q0, q1, q2⟩, _, _, _⟩ := box3 (H18.out.at fun _ H => H.b3)
                    have P0 := hidS p0
                    have P1 := hidS p1
                    have P2 := hidS p2
                    have Q0 := hidS q0
                    have Q1 := hidS q1
                    have Q2 := hidS q2
                    clear p0 p1 p2 q0 q1 q2
                    go_wp2
                    exact bodyPost_ret (v := .tuple #[mv id me (.slice ak nk ck), (.slice al nl cl), svv ep (.slice ax nx cx) (.slice ay ny cy)]) (by simp [results, Try.results18, go_sem, P0.out, P1.out, P2.out, Q0.out, Q1.out, Q2.out]) rfl ⟨id, me, ep, ak, nk, ck, W.heap.size, ks, al, nl, cl, es, ax, nx, cx, ay, ny, cy, bx, by', vs, ss, rfl, hnk5, hk5, hes, by omega, hny, h9, hnx, H18.out.sub (List.nil_sublist _) (List.Sublist.refl _)⟩
          · go_simp
            refine hK _ _ ?_
            clear hK K
            refine wpAny_ready (rs := [0]) (by kernel_rfl) (by simp) ?_
            refine AllReady.cons rfl (fun K hK => ?_) AllReady.nil
            · go_simp
              refine hK _ _ ?_
              clear hK K
              refine wpAny_ready (rs := [3]) (by kernel_rfl) (by simp) ?_
              refine AllReady.cons rfl (fun K hK => ?_) AllReady.nil
              · go_simp
                refine hK _ _ ?_
                clear hK K
                clear m0 m1 m2 mf0 mf1 mf2 o0 o1 o2 e0 e1 e2 p0 p1 p2 f0 f1 f2
                generalize ((x0.setCell ⟨W.heap.size, 0, none⟩ (.int .i64 id)).setCell ⟨W.heap.size, 1, none⟩ (.int .i64 me)).setCell ⟨W.heap.size, 2, none⟩ (.slice ak nk ck) = x1 at H17 H18 ⊢
                obtain ⟨⟨m0, m1, m2⟩, mf0, mf1, mf2⟩ := box3 H17.out.b0
                obtain ⟨⟨o0, o1, o2⟩, e0, e1, e2⟩ := box3 H17.out.b1
                obtain ⟨⟨p0, p1, p2⟩, f0, f1, f2⟩ := box3 H17.out.b2
                refine wpAny_ready (rs := [4]) (by kernel_rfl) (by simp) ?_
                refine AllReady.cons rfl (fun K hK => ?_) AllReady.nil
                · go_simp
                  refine hK _ _ ?_
                  clear hK K
                  refine wpAny_ready (rs := [5]) (by kernel_rfl) (by simp) ?_
                  refine AllReady.cons rfl (fun K hK => ?_) AllReady.nil
                  · go_simp
                    refine hK _ _ ?_
                    clear hK K
                    clear m0 m1 m2 mf0 mf1 mf2 o0 o1 o2 e0 e1 e2 p0 p1 p2 f0 f1 f2
                    refine wpAny_done (by kernel_rfl) ?_ _
                    generalize ((x1.setCell ⟨W.heap.size + 1, 0, none⟩ (.int .i64 ep)).setCell ⟨W.heap.size + 1, 1, none⟩ (.slice ax nx cx)).setCell ⟨W.heap.size + 1, 2, none⟩ (.slice ay ny cy) = x2 at H18 ⊢
                    clear H17
                    obtain ⟨⟨p0, p1, p2⟩, _, _, _⟩ := box3 H18.out.b2
                    obtain ⟨⟨q0, q1, q2⟩, _, _, _⟩ := box3 (H18.out.at fun _ H => H.b3)
                    have P0 := hidS p0
                    have P1 := hidS p1
                    have P2 := hidS p2
                    have Q0 := hidS q0
                    have Q1 := hidS q1
                    have Q2 := hidS q2
                    clear p0 p1 p2 q0 q1 q2
                    go_wp2
                    exact bodyPost_ret (v := .tuple #[mv id me (.slice ak nk ck), (.slice al nl cl), svv ep (.slice ax nx cx) (.slice ay ny cy)]) (by simp [results, Try.results18, go_sem, P0.out, P1.out, P2.out, Q0.out, Q1.out, Q2.out]) rfl ⟨id, me, ep, ak, nk, ck, W.heap.size, ks, al, nl, cl, es, ax, nx, cx, ay, ny, cy, bx, by', vs, ss, rfl, hnk5, hk5, hes, by omega, hny, h9, hnx, H18.out.sub (List.nil_sublist _) (List.Sublist.refl _)⟩
      · have hj' : 0 < j := by omega
        obtain ⟨⟨o0, o1, o2⟩, e0, e1, e2⟩ := box3 HX.out.b1
        have HXd := hidS (show RdX B R W [(w5.heap.size, mb id me (.slice ak nk ck)), (w3.heap.size, svb ep (.slice ax nx cx) (.slice ay ny cy)), (W.heap.size + 1, (svb 0 (.slice none 0 0) (.slice none 0 0))), (W.heap.size, mb 0 0 (.slice none 0 0))] (fL W.heap.size (.slice al nl cl) es :: fK bk (.slice ak nk ck) ks :: fI bx (.slice ax nx cx) vs :: fS by' (.slice ay ny cy) ss :: es.map reRow) wr.drew from HX.out.drew)
        have hS0 : wr.drew.cell? ⟨w3.heap.size, 0, none⟩ = some (.int .i64 ep) ∧ wr.drew.cell? ⟨w3.heap.size, 1, none⟩ = some (.slice ax nx cx) ∧ wr.drew.cell? ⟨w3.heap.size, 2, none⟩ = some (.slice ay ny cy) := ⟨o0, o1, o2⟩
        go_upto_region 11 with fail
        go_cut [12, 13, 14, 15] from 38 to 57 (fun s12 s13 s14 s15 wx => ∃ (p4 p5 : Nat) (ep1 : Int) (a1 : Option Addr) (n1 k1 : Nat) (a2 : Option Addr) (n2 k2 : Nat) (vs1 : List Int) (ss1 : List (Int × Int)) (re : Int) (a3 : Option Addr) (n3 k3 : Nat) (wl : List W4) (code : Int) (zD : Nat), s12 = .pointer (some ⟨p4, 0, none⟩) ∧ s13 = .pointer (some ⟨p5, 0, none⟩) ∧ s15 = .int .i64 code ∧ vs1.length = n1 ∧ ss1.length = n2 ∧ vs1.length ≤ 15 ∧ ss1.length ≤ 9 ∧ wl.length ≤ 8 ∧ Hid (RdX B R W ((p4, svb ep1 (.slice a1 n1 k1) (.slice a2 n2 k2)) :: (p5, rbD re (.slice a3 n3 k3)) :: [(w5.heap.size, mb id me (.slice ak nk ck)), (w3.heap.size, svb ep (.slice ax nx cx) (.slice ay ny cy)), (W.heap.size + 1, (svb 0 (.slice none 0 0) (.slice none 0 0))), (W.heap.size, mb 0 0 (.slice none 0 0))]) (fI zD (.slice a1 n1 k1) vs1 :: fS zD (.slice a2 n2 k2) ss1 :: fW zD (.slice a3 n3 k3) wl :: (fL W.heap.size (.slice al nl cl) es :: fK bk (.slice ak nk ck) ks :: fI bx (.slice ax nx cx) vs :: fS by' (.slice ay ny cy) ss :: es.map reRow)) wx))
        case first =>
          refine wp_region_any (by kernel_rfl) ?_
          try (change wpAny _ _ _ _ _ _ _ (World.drew _))
          have X0 := HXd
          generalize World.drew wr = x0 at X0 ⊢
          refine wpAny_take (i := 1) (v := .pointer (some ⟨R, 0, none⟩)) rfl (by kernel_rfl) (by kernel_rfl) (by kernel_rfl) (fun _ _ _ h => h) (Or.inl ⟨by rfl, fun w => by go_simp⟩) ?_
          refine wpAny_ready (rs := [0, 2, 9, 10]) (by kernel_rfl) (by simp) ?_
          refine AllReady.cons rfl (fun K hK => ?_) (AllReady.cons rfl (fun K hK => ?_) (AllReady.cons rfl (fun K hK => ?_) (AllReady.cons rfl (fun K hK => ?_) AllReady.nil)))
          · obtain ⟨⟨o0, o1, o2⟩, o3, o4, o5⟩ := box3 (X0.out.at fun _ H => H.box (w3.heap.size, svb ep (.slice ax nx cx) (.slice ay ny cy)) (by simp))
            go_simp
            refine hK _ _ ?_
            clear hK K o0 o1 o2 o3 o4 o5
            refine wpAny_ready (rs := [2, 9, 10]) (by kernel_rfl) (by simp) ?_
            refine AllReady.cons rfl (fun K hK => ?_) (AllReady.cons rfl (fun K hK => ?_) (AllReady.cons rfl (fun K hK => ?_) AllReady.nil))
            · go_simp
              refine (drawOp_any B R _ X0.out.rd).mono ?_
              rintro e x1 ⟨k0, m0, rfl, hR0, hg0⟩
              have X1 := hidS (X0.out.read hR0 hg0)
              clear hR0 hg0 X0
              refine hK _ _ ?_
              clear hK K
              refine wpAny_ready (rs := [3, 9, 10]) (by kernel_rfl) (by simp) ?_
              refine AllReady.cons rfl (fun K hK => ?_) (AllReady.cons rfl (fun K hK => ?_) (AllReady.cons rfl (fun K hK => ?_) AllReady.nil))
              · go_simp
                refine (specDone_any ep k0 m0 (show Ints bx (.slice ax nx cx) vs x1 from X1.out.at fun _ H => H.row (fI bx (.slice ax nx cx) vs) (by simp)) (show Seats by' (.slice ay ny cy) ss x1 from X1.out.at fun _ H => H.row (fS by' (.slice ay ny cy) ss) (by simp))).mono ?_
                rintro e x2 ⟨ep1, Xn1, Yn1, vs1, ss1, re, v1, wl, u1, ks1, code, rfl, hz1, hi1, hs1, hz2, hw1, hwl, hz3, hz4, hb1, hz5⟩
                have X2 := hidS (X1.out.map fun _ H => H.adds hb1 [fI x1.heap.size Xn1 vs1, fS x1.heap.size Yn1 ss1, fW x1.heap.size v1 wl] (rows3 hi1 hs1 hw1).1 (new_three _ _ _ _ _ _ _) (rows3 hi1 hs1 hw1).2)
                obtain ⟨a1, n1, k1, rfl, hn1⟩ := iformL hi1
                obtain ⟨a2, n2, k2, rfl, hn2⟩ := sformL hs1
                obtain ⟨a3, n3, k3, rfl⟩ := wformL hw1
                clear hz3 hz4 hz5 hi1 hs1 hw1 hb1 X1
                refine hK _ _ ?_
                clear hK K
                refine wpAny_take (i := 4) (v := .tuple #[svv ep1 (.slice a1 n1 k1) (.slice a2 n2 k2), rvD re (.slice a3 n3 k3), u1, .int .i64 code]) rfl (by kernel_rfl) (by kernel_rfl) (by kernel_rfl) (fun _ _ _ h => h) (Or.inl ⟨by rfl, fun w => by go_simp⟩) ?_
                refine wpAny_take (i := 5) (v := svv ep1 (.slice a1 n1 k1) (.slice a2 n2 k2)) rfl (by kernel_rfl) (by kernel_rfl) (by kernel_rfl) (fun _ _ _ h => h) (Or.inl ⟨by rfl, fun w => by go_simp⟩) ?_
                refine wpAny_take (i := 6) (v := rvD re (.slice a3 n3 k3)) rfl (by kernel_rfl) (by kernel_rfl) (by kernel_rfl) (fun _ _ _ h => h) (Or.inl ⟨by rfl, fun w => by go_simp⟩) ?_
                refine wpAny_take (i := 7) (v := u1) rfl (by kernel_rfl) (by kernel_rfl) (by kernel_rfl) (fun _ _ _ h => h) (Or.inl ⟨by rfl, fun w => by go_simp⟩) ?_
                refine wpAny_take (i := 8) (v := .int .i64 code) rfl (by kernel_rfl) (by kernel_rfl) (by kernel_rfl) (fun _ _ _ h => h) (Or.inl ⟨by rfl, fun w => by go_simp⟩) ?_
                refine wpAny_ready (rs := [9, 10]) (by kernel_rfl) (by simp) ?_
                refine AllReady.cons rfl (fun K hK => ?_) (AllReady.cons rfl (fun K hK => ?_) AllReady.nil)
                · go_simp
                  refine hK _ _ ?_
                  clear hK K
                  have X3 := hidS (X2.out.alloc (svb 0 (.slice none 0 0) (.slice none 0 0)))
                  clear X2
                  generalize x2.alloc (.cells #[.int .i64 0, .slice none 0 0, .slice none 0 0] 43) = x3 at X3 ⊢
                  generalize x2.heap.size = p4 at X3 ⊢
                  refine wpAny_ready (rs := [10]) (by kernel_rfl) (by simp) ?_
                  refine AllReady.cons rfl (fun K hK => ?_) AllReady.nil
                  · go_simp
                    refine hK _ _ ?_
                    clear hK K
                    have X4 := hidS (X3.out.alloc (rbD 0 (.slice none 0 0)))
                    clear X3
                    generalize x3.alloc (.cells #[.int .i64 0, .slice none 0 0] 29) = x4 at X4 ⊢
                    generalize x3.heap.size = p5 at X4 ⊢
                    have X4 := hidS (X4.out.permB (List.Perm.swap _ _ _))
                    obtain ⟨⟨t0, t1, t2⟩, t3, t4, t5⟩ := box3 X4.out.b0
                    have H11 := hidS (X4.out.map fun _ H => ((H.s300 (.int .i64 ep1)).s301 (.slice a1 n1 k1)).s302 (.slice a2 n2 k2))
                    refine wpAny_ready (rs := [11]) (by kernel_rfl) (by simp) ?_
                    refine AllReady.cons rfl (fun K hK => ?_) AllReady.nil
                    go_simp
                    refine hK _ _ ?_
                    clear hK K
                    clear t0 t1 t2 t3 t4 t5
                    generalize ((x4.setCell ⟨p4, 0, none⟩ (.int .i64 ep1)).setCell ⟨p4, 1, none⟩ (.slice a1 n1 k1)).setCell ⟨p4, 2, none⟩ (.slice a2 n2 k2) = y1 at H11 ⊢
                    obtain ⟨⟨t0, t1⟩, t3, t4⟩ := box2K H11.out.b1
                    have H12 := hidS (H11.out.map fun _ H => (H.s210 (.int .i64 re)).s211 (.slice a3 n3 k3))
                    clear H11
                    refine wpAny_ready (rs := [12]) (by kernel_rfl) (by simp) ?_
                    refine AllReady.cons rfl (fun K hK => ?_) AllReady.nil
                    go_simp
                    refine hK _ _ ?_
                    clear hK K
                    clear t0 t1 t3 t4
                    generalize (y1.setCell ⟨p5, 0, none⟩ (.int .i64 re)).setCell ⟨p5, 1, none⟩ (.slice a3 n3 k3) = y2 at H12 ⊢
                    refine wpAny_ready (rs := [13]) (by kernel_rfl) (by simp) ?_
                    refine AllReady.cons rfl (fun K hK => ?_) AllReady.nil
                    go_simp
                    refine hK _ _ ?_
                    clear hK K
                    refine wpAny_ready (rs := [14]) (by kernel_rfl) (by simp) ?_
                    refine AllReady.cons rfl (fun K hK => ?_) AllReady.nil
                    go_simp
                    refine hK _ _ ?_
                    clear hK K
                    refine wpAny_done (by kernel_rfl) ?_ _
                    go_wp2_with fail
                    go_meet
                    exact ⟨_, _, ep1, a1, n1, k1, a2, n2, k2, vs1, ss1, re, a3, n3, k3, wl, code, _, rfl, rfl, rfl, hn1, hn2, hz1, hz2, hwl, H12⟩
                · go_simp
                  refine hK _ _ ?_
                  clear hK K
                  have X3 := hidS (X2.out.alloc (rbD 0 (.slice none 0 0)))
                  clear X2
                  generalize x2.alloc (.cells #[.int .i64 0, .slice none 0 0] 29) = x3 at X3 ⊢
                  generalize x2.heap.size = p5 at X3 ⊢
                  refine wpAny_ready (rs := [9]) (by kernel_rfl) (by simp) ?_
                  refine AllReady.cons rfl (fun K hK => ?_) AllReady.nil
                  · go_simp
                    refine hK _ _ ?_
                    clear hK K
                    have X4 := hidS (X3.out.alloc (svb 0 (.slice none 0 0) (.slice none 0 0)))
                    clear X3
                    generalize x3.alloc (.cells #[.int .i64 0, .slice none 0 0, .slice none 0 0] 43) = x4 at X4 ⊢
                    generalize x3.heap.size = p4 at X4 ⊢
                    obtain ⟨⟨t0, t1, t2⟩, t3, t4, t5⟩ := box3 X4.out.b0
                    have H11 := hidS (X4.out.map fun _ H => ((H.s300 (.int .i64 ep1)).s301 (.slice a1 n1 k1)).s302 (.slice a2 n2 k2))
                    refine wpAny_ready (rs := [11]) (by kernel_rfl) (by simp) ?_
                    refine AllReady.cons rfl (fun K hK => ?_) AllReady.nil
                    go_simp
                    refine hK _ _ ?_
                    clear hK K
                    clear t0 t1 t2 t3 t4 t5
                    generalize ((x4.setCell ⟨p4, 0, none⟩ (.int .i64 ep1)).setCell ⟨p4, 1, none⟩ (.slice a1 n1 k1)).setCell ⟨p4, 2, none⟩ (.slice a2 n2 k2) = y1 at H11 ⊢
                    obtain ⟨⟨t0, t1⟩, t3, t4⟩ := box2K H11.out.b1
                    have H12 := hidS (H11.out.map fun _ H => (H.s210 (.int .i64 re)).s211 (.slice a3 n3 k3))
                    clear H11
                    refine wpAny_ready (rs := [12]) (by kernel_rfl) (by simp) ?_
                    refine AllReady.cons rfl (fun K hK => ?_) AllReady.nil
                    go_simp
                    refine hK _ _ ?_
                    clear hK K
                    clear t0 t1 t3 t4
                    generalize (y1.setCell ⟨p5, 0, none⟩ (.int .i64 re)).setCell ⟨p5, 1, none⟩ (.slice a3 n3 k3) = y2 at H12 ⊢
                    refine wpAny_ready (rs := [13]) (by kernel_rfl) (by simp) ?_
                    refine AllReady.cons rfl (fun K hK => ?_) AllReady.nil
                    go_simp
                    refine hK _ _ ?_
                    clear hK K
                    refine wpAny_ready (rs := [14]) (by kernel_rfl) (by simp) ?_
                    refine AllReady.cons rfl (fun K hK => ?_) AllReady.nil
                    go_simp
                    refine hK _ _ ?_
                    clear hK K
                    refine wpAny_done (by kernel_rfl) ?_ _
                    go_wp2_with fail
                    go_meet
                    exact ⟨_, _, ep1, a1, n1, k1, a2, n2, k2, vs1, ss1, re, a3, n3, k3, wl, code, _, rfl, rfl, rfl, hn1, hn2, hz1, hz2, hwl, H12⟩
              · go_simp
                refine hK _ _ ?_
                clear hK K
                have X2 := hidS (X1.out.alloc (svb 0 (.slice none 0 0) (.slice none 0 0)))
                clear X1
                generalize x1.alloc (.cells #[.int .i64 0, .slice none 0 0, .slice none 0 0] 43) = x2 at X2 ⊢
                generalize x1.heap.size = p4 at X2 ⊢
                refine wpAny_ready (rs := [3, 10]) (by kernel_rfl) (by simp) ?_
                refine AllReady.cons rfl (fun K hK => ?_) (AllReady.cons rfl (fun K hK => ?_) AllReady.nil)
                · go_simp
                  refine (specDone_any ep k0 m0 (show Ints bx (.slice ax nx cx) vs x2 from X2.out.at fun _ H => H.row (fI bx (.slice ax nx cx) vs) (by simp)) (show Seats by' (.slice ay ny cy) ss x2 from X2.out.at fun _ H => H.row (fS by' (.slice ay ny cy) ss) (by simp))).mono ?_
                  rintro e x3 ⟨ep1, Xn1, Yn1, vs1, ss1, re, v1, wl, u1, ks1, code, rfl, hz1, hi1, hs1, hz2, hw1, hwl, hz3, hz4, hb1, hz5⟩
                  have X3 := hidS (X2.out.map fun _ H => H.adds hb1 [fI x2.heap.size Xn1 vs1, fS x2.heap.size Yn1 ss1, fW x2.heap.size v1 wl] (rows3 hi1 hs1 hw1).1 (new_three _ _ _ _ _ _ _) (rows3 hi1 hs1 hw1).2)
                  obtain ⟨a1, n1, k1, rfl, hn1⟩ := iformL hi1
                  obtain ⟨a2, n2, k2, rfl, hn2⟩ := sformL hs1
                  obtain ⟨a3, n3, k3, rfl⟩ := wformL hw1
                  clear hz3 hz4 hz5 hi1 hs1 hw1 hb1 X2
                  refine hK _ _ ?_
                  clear hK K
                  refine wpAny_take (i := 4) (v := .tuple #[svv ep1 (.slice a1 n1 k1) (.slice a2 n2 k2), rvD re (.slice a3 n3 k3), u1, .int .i64 code]) rfl (by kernel_rfl) (by kernel_rfl) (by kernel_rfl) (fun _ _ _ h => h) (Or.inl ⟨by rfl, fun w => by go_simp⟩) ?_
                  refine wpAny_take (i := 5) (v := svv ep1 (.slice a1 n1 k1) (.slice a2 n2 k2)) rfl (by kernel_rfl) (by kernel_rfl) (by kernel_rfl) (fun _ _ _ h => h) (Or.inl ⟨by rfl, fun w => by go_simp⟩) ?_
                  refine wpAny_take (i := 6) (v := rvD re (.slice a3 n3 k3)) rfl (by kernel_rfl) (by kernel_rfl) (by kernel_rfl) (fun _ _ _ h => h) (Or.inl ⟨by rfl, fun w => by go_simp⟩) ?_
                  refine wpAny_take (i := 7) (v := u1) rfl (by kernel_rfl) (by kernel_rfl) (by kernel_rfl) (fun _ _ _ h => h) (Or.inl ⟨by rfl, fun w => by go_simp⟩) ?_
                  refine wpAny_take (i := 8) (v := .int .i64 code) rfl (by kernel_rfl) (by kernel_rfl) (by kernel_rfl) (fun _ _ _ h => h) (Or.inl ⟨by rfl, fun w => by go_simp⟩) ?_
                  refine wpAny_ready (rs := [10]) (by kernel_rfl) (by simp) ?_
                  refine AllReady.cons rfl (fun K hK => ?_) AllReady.nil
                  · go_simp
                    refine hK _ _ ?_
                    clear hK K
                    have X4 := hidS (X3.out.alloc (rbD 0 (.slice none 0 0)))
                    clear X3
                    generalize x3.alloc (.cells #[.int .i64 0, .slice none 0 0] 29) = x4 at X4 ⊢
                    generalize x3.heap.size = p5 at X4 ⊢
                    have X4 := hidS (X4.out.permB (List.Perm.swap _ _ _))
                    obtain ⟨⟨t0, t1, t2⟩, t3, t4, t5⟩ := box3 X4.out.b0
                    have H11 := hidS (X4.out.map fun _ H => ((H.s300 (.int .i64 ep1)).s301 (.slice a1 n1 k1)).s302 (.slice a2 n2 k2))
                    refine wpAny_ready (rs := [11]) (by kernel_rfl) (by simp) ?_
                    refine AllReady.cons rfl (fun K hK => ?_) AllReady.nil
                    go_simp
                    refine hK _ _ ?_
                    clear hK K
                    clear t0 t1 t2 t3 t4 t5
                    generalize ((x4.setCell ⟨p4, 0, none⟩ (.int .i64 ep1)).setCell ⟨p4, 1, none⟩ (.slice a1 n1 k1)).setCell ⟨p4, 2, none⟩ (.slice a2 n2 k2) = y1 at H11 ⊢
                    obtain ⟨⟨t0, t1⟩, t3, t4⟩ := box2K H11.out.b1
                    have H12 := hidS (H11.out.map fun _ H => (H.s210 (.int .i64 re)).s211 (.slice a3 n3 k3))
                    clear H11
                    refine wpAny_ready (rs := [12]) (by kernel_rfl) (by simp) ?_
                    refine AllReady.cons rfl (fun K hK => ?_) AllReady.nil
                    go_simp
                    refine hK _ _ ?_
                    clear hK K
                    clear t0 t1 t3 t4
                    generalize (y1.setCell ⟨p5, 0, none⟩ (.int .i64 re)).setCell ⟨p5, 1, none⟩ (.slice a3 n3 k3) = y2 at H12 ⊢
                    refine wpAny_ready (rs := [13]) (by kernel_rfl) (by simp) ?_
                    refine AllReady.cons rfl (fun K hK => ?_) AllReady.nil
                    go_simp
                    refine hK _ _ ?_
                    clear hK K
                    refine wpAny_ready (rs := [14]) (by kernel_rfl) (by simp) ?_
                    refine AllReady.cons rfl (fun K hK => ?_) AllReady.nil
                    go_simp
                    refine hK _ _ ?_
                    clear hK K
                    refine wpAny_done (by kernel_rfl) ?_ _
                    go_wp2_with fail
                    go_meet
                    exact ⟨_, _, ep1, a1, n1, k1, a2, n2, k2, vs1, ss1, re, a3, n3, k3, wl, code, _, rfl, rfl, rfl, hn1, hn2, hz1, hz2, hwl, H12⟩
                · go_simp
                  refine hK _ _ ?_
                  clear hK K
                  have X3 := hidS (X2.out.alloc (rbD 0 (.slice none 0 0)))
                  clear X2
                  generalize x2.alloc (.cells #[.int .i64 0, .slice none 0 0] 29) = x3 at X3 ⊢
                  generalize x2.heap.size = p5 at X3 ⊢
                  refine wpAny_ready (rs := [3]) (by kernel_rfl) (by simp) ?_
                  refine AllReady.cons rfl (fun K hK => ?_) AllReady.nil
                  · go_simp
                    refine (specDone_any ep k0 m0 (show Ints bx (.slice ax nx cx) vs x3 from X3.out.at fun _ H => H.row (fI bx (.slice ax nx cx) vs) (by simp)) (show Seats by' (.slice ay ny cy) ss x3 from X3.out.at fun _ H => H.row (fS by' (.slice ay ny cy) ss) (by simp))).mono ?_
                    rintro e x4 ⟨ep1, Xn1, Yn1, vs1, ss1, re, v1, wl, u1, ks1, code, rfl, hz1, hi1, hs1, hz2, hw1, hwl, hz3, hz4, hb1, hz5⟩
                    have X4 := hidS (X3.out.map fun _ H => H.adds hb1 [fI x3.heap.size Xn1 vs1, fS x3.heap.size Yn1 ss1, fW x3.heap.size v1 wl] (rows3 hi1 hs1 hw1).1 (new_three _ _ _ _ _ _ _) (rows3 hi1 hs1 hw1).2)
                    obtain ⟨a1, n1, k1, rfl, hn1⟩ := iformL hi1
                    obtain ⟨a2, n2, k2, rfl, hn2⟩ := sformL hs1
                    obtain ⟨a3, n3, k3, rfl⟩ := wformL hw1
                    clear hz3 hz4 hz5 hi1 hs1 hw1 hb1 X3
                    refine hK _ _ ?_
                    clear hK K
                    refine wpAny_take (i := 4) (v := .tuple #[svv ep1 (.slice a1 n1 k1) (.slice a2 n2 k2), rvD re (.slice a3 n3 k3), u1, .int .i64 code]) rfl (by kernel_rfl) (by kernel_rfl) (by kernel_rfl) (fun _ _ _ h => h) (Or.inl ⟨by rfl, fun w => by go_simp⟩) ?_
                    refine wpAny_take (i := 5) (v := svv ep1 (.slice a1 n1 k1) (.slice a2 n2 k2)) rfl (by kernel_rfl) (by kernel_rfl) (by kernel_rfl) (fun _ _ _ h => h) (Or.inl ⟨by rfl, fun w => by go_simp⟩) ?_
                    refine wpAny_take (i := 6) (v := rvD re (.slice a3 n3 k3)) rfl (by kernel_rfl) (by kernel_rfl) (by kernel_rfl) (fun _ _ _ h => h) (Or.inl ⟨by rfl, fun w => by go_simp⟩) ?_
                    refine wpAny_take (i := 7) (v := u1) rfl (by kernel_rfl) (by kernel_rfl) (by kernel_rfl) (fun _ _ _ h => h) (Or.inl ⟨by rfl, fun w => by go_simp⟩) ?_
                    refine wpAny_take (i := 8) (v := .int .i64 code) rfl (by kernel_rfl) (by kernel_rfl) (by kernel_rfl) (fun _ _ _ h => h) (Or.inl ⟨by rfl, fun w => by go_simp⟩) ?_
                    have X4 := hidS (X4.out.permB (List.Perm.swap _ _ _))
                    obtain ⟨⟨t0, t1, t2⟩, t3, t4, t5⟩ := box3 X4.out.b0
                    have H11 := hidS (X4.out.map fun _ H => ((H.s300 (.int .i64 ep1)).s301 (.slice a1 n1 k1)).s302 (.slice a2 n2 k2))
                    refine wpAny_ready (rs := [11]) (by kernel_rfl) (by simp) ?_
                    refine AllReady.cons rfl (fun K hK => ?_) AllReady.nil
                    go_simp
                    refine hK _ _ ?_
                    clear hK K
                    clear t0 t1 t2 t3 t4 t5
                    generalize ((x4.setCell ⟨p4, 0, none⟩ (.int .i64 ep1)).setCell ⟨p4, 1, none⟩ (.slice a1 n1 k1)).setCell ⟨p4, 2, none⟩ (.slice a2 n2 k2) = y1 at H11 ⊢
                    obtain ⟨⟨t0, t1⟩, t3, t4⟩ := box2K H11.out.b1
                    have H12 := hidS (H11.out.map fun _ H => (H.s210 (.int .i64 re)).s211 (.slice a3 n3 k3))
                    clear H11
                    refine wpAny_ready (rs := [12]) (by kernel_rfl) (by simp) ?_
                    refine AllReady.cons rfl (fun K hK => ?_) AllReady.nil
                    go_simp
                    refine hK _ _ ?_
                    clear hK K
                    clear t0 t1 t3 t4
                    generalize (y1.setCell ⟨p5, 0, none⟩ (.int .i64 re)).setCell ⟨p5, 1, none⟩ (.slice a3 n3 k3) = y2 at H12 ⊢
                    refine wpAny_ready (rs := [13]) (by kernel_rfl) (by simp) ?_
                    refine AllReady.cons rfl (fun K hK => ?_) AllReady.nil
                    go_simp
                    refine hK _ _ ?_
                    clear hK K
                    refine wpAny_ready (rs := [14]) (by kernel_rfl) (by simp) ?_
                    refine AllReady.cons rfl (fun K hK => ?_) AllReady.nil
                    go_simp
                    refine hK _ _ ?_
                    clear hK K
                    refine wpAny_done (by kernel_rfl) ?_ _
                    go_wp2_with fail
                    go_meet
                    exact ⟨_, _, ep1, a1, n1, k1, a2, n2, k2, vs1, ss1, re, a3, n3, k3, wl, code, _, rfl, rfl, rfl, hn1, hn2, hz1, hz2, hwl, H12⟩
              · go_simp
                refine hK _ _ ?_
                clear hK K
                have X2 := hidS (X1.out.alloc (rbD 0 (.slice none 0 0)))
                clear X1
                generalize x1.alloc (.cells #[.int .i64 0, .slice none 0 0] 29) = x2 at X2 ⊢
                generalize x1.heap.size = p5 at X2 ⊢
                refine wpAny_ready (rs := [3, 9]) (by kernel_rfl) (by simp) ?_
                refine AllReady.cons rfl (fun K hK => ?_) (AllReady.cons rfl (fun K hK => ?_) AllReady.nil)
                · go_simp
                  refine (specDone_any ep k0 m0 (show Ints bx (.slice ax nx cx) vs x2 from X2.out.at fun _ H => H.row (fI bx (.slice ax nx cx) vs) (by simp)) (show Seats by' (.slice ay ny cy) ss x2 from X2.out.at fun _ H => H.row (fS by' (.slice ay ny cy) ss) (by simp))).mono ?_
                  rintro e x3 ⟨ep1, Xn1, Yn1, vs1, ss1, re, v1, wl, u1, ks1, code, rfl, hz1, hi1, hs1, hz2, hw1, hwl, hz3, hz4, hb1, hz5⟩
                  have X3 := hidS (X2.out.map fun _ H => H.adds hb1 [fI x2.heap.size Xn1 vs1, fS x2.heap.size Yn1 ss1, fW x2.heap.size v1 wl] (rows3 hi1 hs1 hw1).1 (new_three _ _ _ _ _ _ _) (rows3 hi1 hs1 hw1).2)
                  obtain ⟨a1, n1, k1, rfl, hn1⟩ := iformL hi1
                  obtain ⟨a2, n2, k2, rfl, hn2⟩ := sformL hs1
                  obtain ⟨a3, n3, k3, rfl⟩ := wformL hw1
                  clear hz3 hz4 hz5 hi1 hs1 hw1 hb1 X2
                  refine hK _ _ ?_
                  clear hK K
                  refine wpAny_take (i := 4) (v := .tuple #[svv ep1 (.slice a1 n1 k1) (.slice a2 n2 k2), rvD re (.slice a3 n3 k3), u1, .int .i64 code]) rfl (by kernel_rfl) (by kernel_rfl) (by kernel_rfl) (fun _ _ _ h => h) (Or.inl ⟨by rfl, fun w => by go_simp⟩) ?_
                  refine wpAny_take (i := 5) (v := svv ep1 (.slice a1 n1 k1) (.slice a2 n2 k2)) rfl (by kernel_rfl) (by kernel_rfl) (by kernel_rfl) (fun _ _ _ h => h) (Or.inl ⟨by rfl, fun w => by go_simp⟩) ?_
                  refine wpAny_take (i := 6) (v := rvD re (.slice a3 n3 k3)) rfl (by kernel_rfl) (by kernel_rfl) (by kernel_rfl) (fun _ _ _ h => h) (Or.inl ⟨by rfl, fun w => by go_simp⟩) ?_
                  refine wpAny_take (i := 7) (v := u1) rfl (by kernel_rfl) (by kernel_rfl) (by kernel_rfl) (fun _ _ _ h => h) (Or.inl ⟨by rfl, fun w => by go_simp⟩) ?_
                  refine wpAny_take (i := 8) (v := .int .i64 code) rfl (by kernel_rfl) (by kernel_rfl) (by kernel_rfl) (fun _ _ _ h => h) (Or.inl ⟨by rfl, fun w => by go_simp⟩) ?_
                  refine wpAny_ready (rs := [9]) (by kernel_rfl) (by simp) ?_
                  refine AllReady.cons rfl (fun K hK => ?_) AllReady.nil
                  · go_simp
                    refine hK _ _ ?_
                    clear hK K
                    have X4 := hidS (X3.out.alloc (svb 0 (.slice none 0 0) (.slice none 0 0)))
                    clear X3
                    generalize x3.alloc (.cells #[.int .i64 0, .slice none 0 0, .slice none 0 0] 43) = x4 at X4 ⊢
                    generalize x3.heap.size = p4 at X4 ⊢
                    obtain ⟨⟨t0, t1, t2⟩, t3, t4, t5⟩ := box3 X4.out.b0
                    have H11 := hidS (X4.out.map fun _ H => ((H.s300 (.int .i64 ep1)).s301 (.slice a1 n1 k1)).s302 (.slice a2 n2 k2))
                    refine wpAny_ready (rs := [11]) (by kernel_rfl) (by simp) ?_
                    refine AllReady.cons rfl (fun K hK => ?_) AllReady.nil
                    go_simp
                    refine hK _ _ ?_
                    clear hK K
                    clear t0 t1 t2 t3 t4 t5
                    generalize ((x4.setCell ⟨p4, 0, none⟩ (.int .i64 ep1)).setCell ⟨p4, 1, none⟩ (.slice a1 n1 k1)).setCell ⟨p4, 2, none⟩ (.slice a2 n2 k2) = y1 at H11 ⊢
                    obtain ⟨⟨t0, t1⟩, t3, t4⟩ := box2K H11.out.b1
                    have H12 := hidS (H11.out.map fun _ H => (H.s210 (.int .i64 re)).s211 (.slice a3 n3 k3))
                    clear H11
                    refine wpAny_ready (rs := [12]) (by kernel_rfl) (by simp) ?_
                    refine AllReady.cons rfl (fun K hK => ?_) AllReady.nil
                    go_simp
                    refine hK _ _ ?_
                    clear hK K
                    clear t0 t1 t3 t4
                    generalize (y1.setCell ⟨p5, 0, none⟩ (.int .i64 re)).setCell ⟨p5, 1, none⟩ (.slice a3 n3 k3) = y2 at H12 ⊢
                    refine wpAny_ready (rs := [13]) (by kernel_rfl) (by simp) ?_
                    refine AllReady.cons rfl (fun K hK => ?_) AllReady.nil
                    go_simp
                    refine hK _ _ ?_
                    clear hK K
                    refine wpAny_ready (rs := [14]) (by kernel_rfl) (by simp) ?_
                    refine AllReady.cons rfl (fun K hK => ?_) AllReady.nil
                    go_simp
                    refine hK _ _ ?_
                    clear hK K
                    refine wpAny_done (by kernel_rfl) ?_ _
                    go_wp2_with fail
                    go_meet
                    exact ⟨_, _, ep1, a1, n1, k1, a2, n2, k2, vs1, ss1, re, a3, n3, k3, wl, code, _, rfl, rfl, rfl, hn1, hn2, hz1, hz2, hwl, H12⟩
                · go_simp
                  refine hK _ _ ?_
                  clear hK K
                  have X3 := hidS (X2.out.alloc (svb 0 (.slice none 0 0) (.slice none 0 0)))
                  clear X2
                  generalize x2.alloc (.cells #[.int .i64 0, .slice none 0 0, .slice none 0 0] 43) = x3 at X3 ⊢
                  generalize x2.heap.size = p4 at X3 ⊢
                  refine wpAny_ready (rs := [3]) (by kernel_rfl) (by simp) ?_
                  refine AllReady.cons rfl (fun K hK => ?_) AllReady.nil
                  · go_simp
                    refine (specDone_any ep k0 m0 (show Ints bx (.slice ax nx cx) vs x3 from X3.out.at fun _ H => H.row (fI bx (.slice ax nx cx) vs) (by simp)) (show Seats by' (.slice ay ny cy) ss x3 from X3.out.at fun _ H => H.row (fS by' (.slice ay ny cy) ss) (by simp))).mono ?_
                    rintro e x4 ⟨ep1, Xn1, Yn1, vs1, ss1, re, v1, wl, u1, ks1, code, rfl, hz1, hi1, hs1, hz2, hw1, hwl, hz3, hz4, hb1, hz5⟩
                    have X4 := hidS (X3.out.map fun _ H => H.adds hb1 [fI x3.heap.size Xn1 vs1, fS x3.heap.size Yn1 ss1, fW x3.heap.size v1 wl] (rows3 hi1 hs1 hw1).1 (new_three _ _ _ _ _ _ _) (rows3 hi1 hs1 hw1).2)
                    obtain ⟨a1, n1, k1, rfl, hn1⟩ := iformL hi1
                    obtain ⟨a2, n2, k2, rfl, hn2⟩ := sformL hs1
                    obtain ⟨a3, n3, k3, rfl⟩ := wformL hw1
                    clear hz3 hz4 hz5 hi1 hs1 hw1 hb1 X3
                    refine hK _ _ ?_
                    clear hK K
                    refine wpAny_take (i := 4) (v := .tuple #[svv ep1 (.slice a1 n1 k1) (.slice a2 n2 k2), rvD re (.slice a3 n3 k3), u1, .int .i64 code]) rfl (by kernel_rfl) (by kernel_rfl) (by kernel_rfl) (fun _ _ _ h => h) (Or.inl ⟨by rfl, fun w => by go_simp⟩) ?_
                    refine wpAny_take (i := 5) (v := svv ep1 (.slice a1 n1 k1) (.slice a2 n2 k2)) rfl (by kernel_rfl) (by kernel_rfl) (by kernel_rfl) (fun _ _ _ h => h) (Or.inl ⟨by rfl, fun w => by go_simp⟩) ?_
                    refine wpAny_take (i := 6) (v := rvD re (.slice a3 n3 k3)) rfl (by kernel_rfl) (by kernel_rfl) (by kernel_rfl) (fun _ _ _ h => h) (Or.inl ⟨by rfl, fun w => by go_simp⟩) ?_
                    refine wpAny_take (i := 7) (v := u1) rfl (by kernel_rfl) (by kernel_rfl) (by kernel_rfl) (fun _ _ _ h => h) (Or.inl ⟨by rfl, fun w => by go_simp⟩) ?_
                    refine wpAny_take (i := 8) (v := .int .i64 code) rfl (by kernel_rfl) (by kernel_rfl) (by kernel_rfl) (fun _ _ _ h => h) (Or.inl ⟨by rfl, fun w => by go_simp⟩) ?_
                    obtain ⟨⟨t0, t1, t2⟩, t3, t4, t5⟩ := box3 X4.out.b0
                    have H11 := hidS (X4.out.map fun _ H => ((H.s300 (.int .i64 ep1)).s301 (.slice a1 n1 k1)).s302 (.slice a2 n2 k2))
                    refine wpAny_ready (rs := [11]) (by kernel_rfl) (by simp) ?_
                    refine AllReady.cons rfl (fun K hK => ?_) AllReady.nil
                    go_simp
                    refine hK _ _ ?_
                    clear hK K
                    clear t0 t1 t2 t3 t4 t5
                    generalize ((x4.setCell ⟨p4, 0, none⟩ (.int .i64 ep1)).setCell ⟨p4, 1, none⟩ (.slice a1 n1 k1)).setCell ⟨p4, 2, none⟩ (.slice a2 n2 k2) = y1 at H11 ⊢
                    obtain ⟨⟨t0, t1⟩, t3, t4⟩ := box2K H11.out.b1
                    have H12 := hidS (H11.out.map fun _ H => (H.s210 (.int .i64 re)).s211 (.slice a3 n3 k3))
                    clear H11
                    refine wpAny_ready (rs := [12]) (by kernel_rfl) (by simp) ?_
                    refine AllReady.cons rfl (fun K hK => ?_) AllReady.nil
                    go_simp
                    refine hK _ _ ?_
                    clear hK K
                    clear t0 t1 t3 t4
                    generalize (y1.setCell ⟨p5, 0, none⟩ (.int .i64 re)).setCell ⟨p5, 1, none⟩ (.slice a3 n3 k3) = y2 at H12 ⊢
                    refine wpAny_ready (rs := [13]) (by kernel_rfl) (by simp) ?_
                    refine AllReady.cons rfl (fun K hK => ?_) AllReady.nil
                    go_simp
                    refine hK _ _ ?_
                    clear hK K
                    refine wpAny_ready (rs := [14]) (by kernel_rfl) (by simp) ?_
                    refine AllReady.cons rfl (fun K hK => ?_) AllReady.nil
                    go_simp
                    refine hK _ _ ?_
                    clear hK K
                    refine wpAny_done (by kernel_rfl) ?_ _
                    go_wp2_with fail
                    go_meet
                    exact ⟨_, _, ep1, a1, n1, k1, a2, n2, k2, vs1, ss1, re, a3, n3, k3, wl, code, _, rfl, rfl, rfl, hn1, hn2, hz1, hz2, hwl, H12⟩
            · go_simp
              refine hK _ _ ?_
              clear hK K
              have X1 := hidS (X0.out.alloc (svb 0 (.slice none 0 0) (.slice none 0 0)))
              clear X0
              generalize x0.alloc (.cells #[.int .i64 0, .slice none 0 0, .slice none 0 0] 43) = x1 at X1 ⊢
              generalize x0.heap.size = p4 at X1 ⊢
              refine wpAny_ready (rs := [2, 10]) (by kernel_rfl) (by simp) ?_
              refine AllReady.cons rfl (fun K hK => ?_) (AllReady.cons rfl (fun K hK => ?_) AllReady.nil)
              · go_simp
                refine (drawOp_any B R _ X1.out.rd).mono ?_
                rintro e x2 ⟨k0, m0, rfl, hR0, hg0⟩
                have X2 := hidS (X1.out.read hR0 hg0)
                clear hR0 hg0 X1
                refine hK _ _ ?_
                clear hK K
                refine wpAny_ready (rs := [3, 10]) (by kernel_rfl) (by simp) ?_
                refine AllReady.cons rfl (fun K hK => ?_) (AllReady.cons rfl (fun K hK => ?_) AllReady.nil)
                · go_simp
                  refine (specDone_any ep k0 m0 (show Ints bx (.slice ax nx cx) vs x2 from X2.out.at fun _ H => H.row (fI bx (.slice ax nx cx) vs) (by simp)) (show Seats by' (.slice ay ny cy) ss x2 from X2.out.at fun _ H => H.row (fS by' (.slice ay ny cy) ss) (by simp))).mono ?_
                  rintro e x3 ⟨ep1, Xn1, Yn1, vs1, ss1, re, v1, wl, u1, ks1, code, rfl, hz1, hi1, hs1, hz2, hw1, hwl, hz3, hz4, hb1, hz5⟩
                  have X3 := hidS (X2.out.map fun _ H => H.adds hb1 [fI x2.heap.size Xn1 vs1, fS x2.heap.size Yn1 ss1, fW x2.heap.size v1 wl] (rows3 hi1 hs1 hw1).1 (new_three _ _ _ _ _ _ _) (rows3 hi1 hs1 hw1).2)
                  obtain ⟨a1, n1, k1, rfl, hn1⟩ := iformL hi1
                  obtain ⟨a2, n2, k2, rfl, hn2⟩ := sformL hs1
                  obtain ⟨a3, n3, k3, rfl⟩ := wformL hw1
                  clear hz3 hz4 hz5 hi1 hs1 hw1 hb1 X2
                  refine hK _ _ ?_
                  clear hK K
                  refine wpAny_take (i := 4) (v := .tuple #[svv ep1 (.slice a1 n1 k1) (.slice a2 n2 k2), rvD re (.slice a3 n3 k3), u1, .int .i64 code]) rfl (by kernel_rfl) (by kernel_rfl) (by kernel_rfl) (fun _ _ _ h => h) (Or.inl ⟨by rfl, fun w => by go_simp⟩) ?_
                  refine wpAny_take (i := 5) (v := svv ep1 (.slice a1 n1 k1) (.slice a2 n2 k2)) rfl (by kernel_rfl) (by kernel_rfl) (by kernel_rfl) (fun _ _ _ h => h) (Or.inl ⟨by rfl, fun w => by go_simp⟩) ?_
                  refine wpAny_take (i := 6) (v := rvD re (.slice a3 n3 k3)) rfl (by kernel_rfl) (by kernel_rfl) (by kernel_rfl) (fun _ _ _ h => h) (Or.inl ⟨by rfl, fun w => by go_simp⟩) ?_
                  refine wpAny_take (i := 7) (v := u1) rfl (by kernel_rfl) (by kernel_rfl) (by kernel_rfl) (fun _ _ _ h => h) (Or.inl ⟨by rfl, fun w => by go_simp⟩) ?_
                  refine wpAny_take (i := 8) (v := .int .i64 code) rfl (by kernel_rfl) (by kernel_rfl) (by kernel_rfl) (fun _ _ _ h => h) (Or.inl ⟨by rfl, fun w => by go_simp⟩) ?_
                  refine wpAny_ready (rs := [10]) (by kernel_rfl) (by simp) ?_
                  refine AllReady.cons rfl (fun K hK => ?_) AllReady.nil
                  · go_simp
                    refine hK _ _ ?_
                    clear hK K
                    have X4 := hidS (X3.out.alloc (rbD 0 (.slice none 0 0)))
                    clear X3
                    generalize x3.alloc (.cells #[.int .i64 0, .slice none 0 0] 29) = x4 at X4 ⊢
                    generalize x3.heap.size = p5 at X4 ⊢
                    have X4 := hidS (X4.out.permB (List.Perm.swap _ _ _))
                    obtain ⟨⟨t0, t1, t2⟩, t3, t4, t5⟩ := box3 X4.out.b0
                    have H11 := hidS (X4.out.map fun _ H => ((H.s300 (.int .i64 ep1)).s301 (.slice a1 n1 k1)).s302 (.slice a2 n2 k2))
                    refine wpAny_ready (rs := [11]) (by kernel_rfl) (by simp) ?_
                    refine AllReady.cons rfl (fun K hK => ?_) AllReady.nil
                    go_simp
                    refine hK _ _ ?_
                    clear hK K
                    clear t0 t1 t2 t3 t4 t5
                    generalize ((x4.setCell ⟨p4, 0, none⟩ (.int .i64 ep1)).setCell ⟨p4, 1, none⟩ (.slice a1 n1 k1)).setCell ⟨p4, 2, none⟩ (.slice a2 n2 k2) = y1 at H11 ⊢
                    obtain ⟨⟨t0, t1⟩, t3, t4⟩ := box2K H11.out.b1
                    have H12 := hidS (H11.out.map fun _ H => (H.s210 (.int .i64 re)).s211 (.slice a3 n3 k3))
                    clear H11
                    refine wpAny_ready (rs := [12]) (by kernel_rfl) (by simp) ?_
                    refine AllReady.cons rfl (fun K hK => ?_) AllReady.nil
                    go_simp
                    refine hK _ _ ?_
                    clear hK K
                    clear t0 t1 t3 t4
                    generalize (y1.setCell ⟨p5, 0, none⟩ (.int .i64 re)).setCell ⟨p5, 1, none⟩ (.slice a3 n3 k3) = y2 at H12 ⊢
                    refine wpAny_ready (rs := [13]) (by kernel_rfl) (by simp) ?_
                    refine AllReady.cons rfl (fun K hK => ?_) AllReady.nil
                    go_simp
                    refine hK _ _ ?_
                    clear hK K
                    refine wpAny_ready (rs := [14]) (by kernel_rfl) (by simp) ?_
                    refine AllReady.cons rfl (fun K hK => ?_) AllReady.nil
                    go_simp
                    refine hK _ _ ?_
                    clear hK K
                    refine wpAny_done (by kernel_rfl) ?_ _
                    go_wp2_with fail
                    go_meet
                    exact ⟨_, _, ep1, a1, n1, k1, a2, n2, k2, vs1, ss1, re, a3, n3, k3, wl, code, _, rfl, rfl, rfl, hn1, hn2, hz1, hz2, hwl, H12⟩
                · go_simp
                  refine hK _ _ ?_
                  clear hK K
                  have X3 := hidS (X2.out.alloc (rbD 0 (.slice none 0 0)))
                  clear X2
                  generalize x2.alloc (.cells #[.int .i64 0, .slice none 0 0] 29) = x3 at X3 ⊢
                  generalize x2.heap.size = p5 at X3 ⊢
                  refine wpAny_ready (rs := [3]) (by kernel_rfl) (by simp) ?_
                  refine AllReady.cons rfl (fun K hK => ?_) AllReady.nil
                  · go_simp
                    refine (specDone_any ep k0 m0 (show Ints bx (.slice ax nx cx) vs x3 from X3.out.at fun _ H => H.row (fI bx (.slice ax nx cx) vs) (by simp)) (show Seats by' (.slice ay ny cy) ss x3 from X3.out.at fun _ H => H.row (fS by' (.slice ay ny cy) ss) (by simp))).mono ?_
                    rintro e x4 ⟨ep1, Xn1, Yn1, vs1, ss1, re, v1, wl, u1, ks1, code, rfl, hz1, hi1, hs1, hz2, hw1, hwl, hz3, hz4, hb1, hz5⟩
                    have X4 := hidS (X3.out.map fun _ H => H.adds hb1 [fI x3.heap.size Xn1 vs1, fS x3.heap.size Yn1 ss1, fW x3.heap.size v1 wl] (rows3 hi1 hs1 hw1).1 (new_three _ _ _ _ _ _ _) (rows3 hi1 hs1 hw1).2)
                    obtain ⟨a1, n1, k1, rfl, hn1⟩ := iformL hi1
                    obtain ⟨a2, n2, k2, rfl, hn2⟩ := sformL hs1
                    obtain ⟨a3, n3, k3, rfl⟩ := wformL hw1
                    clear hz3 hz4 hz5 hi1 hs1 hw1 hb1 X3
                    refine hK _ _ ?_
                    clear hK K
                    refine wpAny_take (i := 4) (v := .tuple #[svv ep1 (.slice a1 n1 k1) (.slice a2 n2 k2), rvD re (.slice a3 n3 k3), u1, .int .i64 code]) rfl (by kernel_rfl) (by kernel_rfl) (by kernel_rfl) (fun _ _ _ h => h) (Or.inl ⟨by rfl, fun w => by go_simp⟩) ?_
                    refine wpAny_take (i := 5) (v := svv ep1 (.slice a1 n1 k1) (.slice a2 n2 k2)) rfl (by kernel_rfl) (by kernel_rfl) (by kernel_rfl) (fun _ _ _ h => h) (Or.inl ⟨by rfl, fun w => by go_simp⟩) ?_
                    refine wpAny_take (i := 6) (v := rvD re (.slice a3 n3 k3)) rfl (by kernel_rfl) (by kernel_rfl) (by kernel_rfl) (fun _ _ _ h => h) (Or.inl ⟨by rfl, fun w => by go_simp⟩) ?_
                    refine wpAny_take (i := 7) (v := u1) rfl (by kernel_rfl) (by kernel_rfl) (by kernel_rfl) (fun _ _ _ h => h) (Or.inl ⟨by rfl, fun w => by go_simp⟩) ?_
                    refine wpAny_take (i := 8) (v := .int .i64 code) rfl (by kernel_rfl) (by kernel_rfl) (by kernel_rfl) (fun _ _ _ h => h) (Or.inl ⟨by rfl, fun w => by go_simp⟩) ?_
                    have X4 := hidS (X4.out.permB (List.Perm.swap _ _ _))
                    obtain ⟨⟨t0, t1, t2⟩, t3, t4, t5⟩ := box3 X4.out.b0
                    have H11 := hidS (X4.out.map fun _ H => ((H.s300 (.int .i64 ep1)).s301 (.slice a1 n1 k1)).s302 (.slice a2 n2 k2))
                    refine wpAny_ready (rs := [11]) (by kernel_rfl) (by simp) ?_
                    refine AllReady.cons rfl (fun K hK => ?_) AllReady.nil
                    go_simp
                    refine hK _ _ ?_
                    clear hK K
                    clear t0 t1 t2 t3 t4 t5
                    generalize ((x4.setCell ⟨p4, 0, none⟩ (.int .i64 ep1)).setCell ⟨p4, 1, none⟩ (.slice a1 n1 k1)).setCell ⟨p4, 2, none⟩ (.slice a2 n2 k2) = y1 at H11 ⊢
                    obtain ⟨⟨t0, t1⟩, t3, t4⟩ := box2K H11.out.b1
                    have H12 := hidS (H11.out.map fun _ H => (H.s210 (.int .i64 re)).s211 (.slice a3 n3 k3))
                    clear H11
                    refine wpAny_ready (rs := [12]) (by kernel_rfl) (by simp) ?_
                    refine AllReady.cons rfl (fun K hK => ?_) AllReady.nil
                    go_simp
                    refine hK _ _ ?_
                    clear hK K
                    clear t0 t1 t3 t4
                    generalize (y1.setCell ⟨p5, 0, none⟩ (.int .i64 re)).setCell ⟨p5, 1, none⟩ (.slice a3 n3 k3) = y2 at H12 ⊢
                    refine wpAny_ready (rs := [13]) (by kernel_rfl) (by simp) ?_
                    refine AllReady.cons rfl (fun K hK => ?_) AllReady.nil
                    go_simp
                    refine hK _ _ ?_
                    clear hK K
                    refine wpAny_ready (rs := [14]) (by kernel_rfl) (by simp) ?_
                    refine AllReady.cons rfl (fun K hK => ?_) AllReady.nil
                    go_simp
                    refine hK _ _ ?_
                    clear hK K
                    refine wpAny_done (by kernel_rfl) ?_ _
                    go_wp2_with fail
                    go_meet
                    exact ⟨_, _, ep1, a1, n1, k1, a2, n2, k2, vs1, ss1, re, a3, n3, k3, wl, code, _, rfl, rfl, rfl, hn1, hn2, hz1, hz2, hwl, H12⟩
              · go_simp
                refine hK _ _ ?_
                clear hK K
                have X2 := hidS (X1.out.alloc (rbD 0 (.slice none 0 0)))
                clear X1
                generalize x1.alloc (.cells #[.int .i64 0, .slice none 0 0] 29) = x2 at X2 ⊢
                generalize x1.heap.size = p5 at X2 ⊢
                refine wpAny_ready (rs := [2]) (by kernel_rfl) (by simp) ?_
                refine AllReady.cons rfl (fun K hK => ?_) AllReady.nil
                · go_simp
                  refine (drawOp_any B R _ X2.out.rd).mono ?_
                  rintro e x3 ⟨k0, m0, rfl, hR0, hg0⟩
                  have X3 := hidS (X2.out.read hR0 hg0)
                  clear hR0 hg0 X2
                  refine hK _ _ ?_
                  clear hK K
                  refine wpAny_ready (rs := [3]) (by kernel_rfl) (by simp) ?_
                  refine AllReady.cons rfl (fun K hK => ?_) AllReady.nil
                  · go_simp
                    refine (specDone_any ep k0 m0 (show Ints bx (.slice ax nx cx) vs x3 from X3.out.at fun _ H => H.row (fI bx (.slice ax nx cx) vs) (by simp)) (show Seats by' (.slice ay ny cy) ss x3 from X3.out.at fun _ H => H.row (fS by' (.slice ay ny cy) ss) (by simp))).mono ?_
                    rintro e x4 ⟨ep1, Xn1, Yn1, vs1, ss1, re, v1, wl, u1, ks1, code, rfl, hz1, hi1, hs1, hz2, hw1, hwl, hz3, hz4, hb1, hz5⟩
                    have X4 := hidS (X3.out.map fun _ H => H.adds hb1 [fI x3.heap.size Xn1 vs1, fS x3.heap.size Yn1 ss1, fW x3.heap.size v1 wl] (rows3 hi1 hs1 hw1).1 (new_three _ _ _ _ _ _ _) (rows3 hi1 hs1 hw1).2)
                    obtain ⟨a1, n1, k1, rfl, hn1⟩ := iformL hi1
                    obtain ⟨a2, n2, k2, rfl, hn2⟩ := sformL hs1
                    obtain ⟨a3, n3, k3, rfl⟩ := wformL hw1
                    clear hz3 hz4 hz5 hi1 hs1 hw1 hb1 X3
                    refine hK _ _ ?_
                    clear hK K
                    refine wpAny_take (i := 4) (v := .tuple #[svv ep1 (.slice a1 n1 k1) (.slice a2 n2 k2), rvD re (.slice a3 n3 k3), u1, .int .i64 code]) rfl (by kernel_rfl) (by kernel_rfl) (by kernel_rfl) (fun _ _ _ h => h) (Or.inl ⟨by rfl, fun w => by go_simp⟩) ?_
                    refine wpAny_take (i := 5) (v := svv ep1 (.slice a1 n1 k1) (.slice a2 n2 k2)) rfl (by kernel_rfl) (by kernel_rfl) (by kernel_rfl) (fun _ _ _ h => h) (Or.inl ⟨by rfl, fun w => by go_simp⟩) ?_
                    refine wpAny_take (i := 6) (v := rvD re (.slice a3 n3 k3)) rfl (by kernel_rfl) (by kernel_rfl) (by kernel_rfl) (fun _ _ _ h => h) (Or.inl ⟨by rfl, fun w => by go_simp⟩) ?_
                    refine wpAny_take (i := 7) (v := u1) rfl (by kernel_rfl) (by kernel_rfl) (by kernel_rfl) (fun _ _ _ h => h) (Or.inl ⟨by rfl, fun w => by go_simp⟩) ?_
                    refine wpAny_take (i := 8) (v := .int .i64 code) rfl (by kernel_rfl) (by kernel_rfl) (by kernel_rfl) (fun _ _ _ h => h) (Or.inl ⟨by rfl, fun w => by go_simp⟩) ?_
                    have X4 := hidS (X4.out.permB (List.Perm.swap _ _ _))
                    obtain ⟨⟨t0, t1, t2⟩, t3, t4, t5⟩ := box3 X4.out.b0
                    have H11 := hidS (X4.out.map fun _ H => ((H.s300 (.int .i64 ep1)).s301 (.slice a1 n1 k1)).s302 (.slice a2 n2 k2))
                    refine wpAny_ready (rs := [11]) (by kernel_rfl) (by simp) ?_
                    refine AllReady.cons rfl (fun K hK => ?_) AllReady.nil
                    go_simp
                    refine hK _ _ ?_
                    clear hK K
                    clear t0 t1 t2 t3 t4 t5
                    generalize ((x4.setCell ⟨p4, 0, none⟩ (.int .i64 ep1)).setCell ⟨p4, 1, none⟩ (.slice a1 n1 k1)).setCell ⟨p4, 2, none⟩ (.slice a2 n2 k2) = y1 at H11 ⊢
                    obtain ⟨⟨t0, t1⟩, t3, t4⟩ := box2K H11.out.b1
                    have H12 := hidS (H11.out.map fun _ H => (H.s210 (.int .i64 re)).s211 (.slice a3 n3 k3))
                    clear H11
                    refine wpAny_ready (rs := [12]) (by kernel_rfl) (by simp) ?_
                    refine AllReady.cons rfl (fun K hK => ?_) AllReady.nil
                    go_simp
                    refine hK _ _ ?_
                    clear hK K
                    clear t0 t1 t3 t4
                    generalize (y1.setCell ⟨p5, 0, none⟩ (.int .i64 re)).setCell ⟨p5, 1, none⟩ (.slice a3 n3 k3) = y2 at H12 ⊢
                    refine wpAny_ready (rs := [13]) (by kernel_rfl) (by simp) ?_
                    refine AllReady.cons rfl (fun K hK => ?_) AllReady.nil
                    go_simp
                    refine hK _ _ ?_
                    clear hK K
                    refine wpAny_ready (rs := [14]) (by kernel_rfl) (by simp) ?_
                    refine AllReady.cons rfl (fun K hK => ?_) AllReady.nil
                    go_simp
                    refine hK _ _ ?_
                    clear hK K
                    refine wpAny_done (by kernel_rfl) ?_ _
                    go_wp2_with fail
                    go_meet
                    exact ⟨_, _, ep1, a1, n1, k1, a2, n2, k2, vs1, ss1, re, a3, n3, k3, wl, code, _, rfl, rfl, rfl, hn1, hn2, hz1, hz2, hwl, H12⟩
            · go_simp
              refine hK _ _ ?_
              clear hK K
              have X1 := hidS (X0.out.alloc (rbD 0 (.slice none 0 0)))
              clear X0
              generalize x0.alloc (.cells #[.int .i64 0, .slice none 0 0] 29) = x1 at X1 ⊢
              generalize x0.heap.size = p5 at X1 ⊢
              refine wpAny_ready (rs := [2, 9]) (by kernel_rfl) (by simp) ?_
              refine AllReady.cons rfl (fun K hK => ?_) (AllReady.cons rfl (fun K hK => ?_) AllReady.nil)
              · go_simp
                refine (drawOp_any B R _ X1.out.rd).mono ?_
                rintro e x2 ⟨k0, m0, rfl, hR0, hg0⟩
                have X2 := hidS (X1.out.read hR0 hg0)
                clear hR0 hg0 X1
                refine hK _ _ ?_
                clear hK K
                refine wpAny_ready (rs := [3, 9]) (by kernel_rfl) (by simp) ?_
                refine AllReady.cons rfl (fun K hK => ?_) (AllReady.cons rfl (fun K hK => ?_) AllReady.nil)
                · go_simp
                  refine (specDone_any ep k0 m0 (show Ints bx (.slice ax nx cx) vs x2 from X2.out.at fun _ H => H.row (fI bx (.slice ax nx cx) vs) (by simp)) (show Seats by' (.slice ay ny cy) ss x2 from X2.out.at fun _ H => H.row (fS by' (.slice ay ny cy) ss) (by simp))).mono ?_
                  rintro e x3 ⟨ep1, Xn1, Yn1, vs1, ss1, re, v1, wl, u1, ks1, code, rfl, hz1, hi1, hs1, hz2, hw1, hwl, hz3, hz4, hb1, hz5⟩
                  have X3 := hidS (X2.out.map fun _ H => H.adds hb1 [fI x2.heap.size Xn1 vs1, fS x2.heap.size Yn1 ss1, fW x2.heap.size v1 wl] (rows3 hi1 hs1 hw1).1 (new_three _ _ _ _ _ _ _) (rows3 hi1 hs1 hw1).2)
                  obtain ⟨a1, n1, k1, rfl, hn1⟩ := iformL hi1
                  obtain ⟨a2, n2, k2, rfl, hn2⟩ := sformL hs1
                  obtain ⟨a3, n3, k3, rfl⟩ := wformL hw1
                  clear hz3 hz4 hz5 hi1 hs1 hw1 hb1 X2
                  refine hK _ _ ?_
                  clear hK K
                  refine wpAny_take (i := 4) (v := .tuple #[svv ep1 (.slice a1 n1 k1) (.slice a2 n2 k2), rvD re (.slice a3 n3 k3), u1, .int .i64 code]) rfl (by kernel_rfl) (by kernel_rfl) (by kernel_rfl) (fun _ _ _ h => h) (Or.inl ⟨by rfl, fun w => by go_simp⟩) ?_
                  refine wpAny_take (i := 5) (v := svv ep1 (.slice a1 n1 k1) (.slice a2 n2 k2)) rfl (by kernel_rfl) (by kernel_rfl) (by kernel_rfl) (fun _ _ _ h => h) (Or.inl ⟨by rfl, fun w => by go_simp⟩) ?_
                  refine wpAny_take (i := 6) (v := rvD re (.slice a3 n3 k3)) rfl (by kernel_rfl) (by kernel_rfl) (by kernel_rfl) (fun _ _ _ h => h) (Or.inl ⟨by rfl, fun w => by go_simp⟩) ?_
                  refine wpAny_take (i := 7) (v := u1) rfl (by kernel_rfl) (by kernel_rfl) (by kernel_rfl) (fun _ _ _ h => h) (Or.inl ⟨by rfl, fun w => by go_simp⟩) ?_
                  refine wpAny_take (i := 8) (v := .int .i64 code) rfl (by kernel_rfl) (by kernel_rfl) (by kernel_rfl) (fun _ _ _ h => h) (Or.inl ⟨by rfl, fun w => by go_simp⟩) ?_
                  refine wpAny_ready (rs := [9]) (by kernel_rfl) (by simp) ?_
                  refine AllReady.cons rfl (fun K hK => ?_) AllReady.nil
                  · go_simp
                    refine hK _ _ ?_
                    clear hK K
                    have X4 := hidS (X3.out.alloc (svb 0 (.slice none 0 0) (.slice none 0 0)))
                    clear X3
                    generalize x3.alloc (.cells #[.int .i64 0, .slice none 0 0, .slice none 0 0] 43) = x4 at X4 ⊢
                    generalize x3.heap.size = p4 at X4 ⊢
                    obtain ⟨⟨t0, t1, t2⟩, t3, t4, t5⟩ := box3 X4.out.b0
                    have H11 := hidS (X4.out.map fun _ H => ((H.s300 (.int .i64 ep1)).s301 (.slice a1 n1 k1)).s302 (.slice a2 n2 k2))
                    refine wpAny_ready (rs := [11]) (by kernel_rfl) (by simp) ?_
                    refine AllReady.cons rfl (fun K hK => ?_) AllReady.nil
                    go_simp
                    refine hK _ _ ?_
                    clear hK K
                    clear t0 t1 t2 t3 t4 t5
                    generalize ((x4.setCell ⟨p4, 0, none⟩ (.int .i64 ep1)).setCell ⟨p4, 1, none⟩ (.slice a1 n1 k1)).setCell ⟨p4, 2, none⟩ (.slice a2 n2 k2) = y1 at H11 ⊢
                    obtain ⟨⟨t0, t1⟩, t3, t4⟩ := box2K H11.out.b1
                    have H12 := hidS (H11.out.map fun _ H => (H.s210 (.int .i64 re)).s211 (.slice a3 n3 k3))
                    clear H11
                    refine wpAny_ready (rs := [12]) (by kernel_rfl) (by simp) ?_
                    refine AllReady.cons rfl (fun K hK => ?_) AllReady.nil
                    go_simp
                    refine hK _ _ ?_
                    clear hK K
                    clear t0 t1 t3 t4
                    generalize (y1.setCell ⟨p5, 0, none⟩ (.int .i64 re)).setCell ⟨p5, 1, none⟩ (.slice a3 n3 k3) = y2 at H12 ⊢
                    refine wpAny_ready (rs := [13]) (by kernel_rfl) (by simp) ?_
                    refine AllReady.cons rfl (fun K hK => ?_) AllReady.nil
                    go_simp
                    refine hK _ _ ?_
                    clear hK K
                    refine wpAny_ready (rs := [14]) (by kernel_rfl) (by simp) ?_
                    refine AllReady.cons rfl (fun K hK => ?_) AllReady.nil
                    go_simp
                    refine hK _ _ ?_
                    clear hK K
                    refine wpAny_done (by kernel_rfl) ?_ _
                    go_wp2_with fail
                    go_meet
                    exact ⟨_, _, ep1, a1, n1, k1, a2, n2, k2, vs1, ss1, re, a3, n3, k3, wl, code, _, rfl, rfl, rfl, hn1, hn2, hz1, hz2, hwl, H12⟩
                · go_simp
                  refine hK _ _ ?_
                  clear hK K
                  have X3 := hidS (X2.out.alloc (svb 0 (.slice none 0 0) (.slice none 0 0)))
                  clear X2
                  generalize x2.alloc (.cells #[.int .i64 0, .slice none 0 0, .slice none 0 0] 43) = x3 at X3 ⊢
                  generalize x2.heap.size = p4 at X3 ⊢
                  refine wpAny_ready (rs := [3]) (by kernel_rfl) (by simp) ?_
                  refine AllReady.cons rfl (fun K hK => ?_) AllReady.nil
                  · go_simp
                    refine (specDone_any ep k0 m0 (show Ints bx (.slice ax nx cx) vs x3 from X3.out.at fun _ H => H.row (fI bx (.slice ax nx cx) vs) (by simp)) (show Seats by' (.slice ay ny cy) ss x3 from X3.out.at fun _ H => H.row (fS by' (.slice ay ny cy) ss) (by simp))).mono ?_
                    rintro e x4 ⟨ep1, Xn1, Yn1, vs1, ss1, re, v1, wl, u1, ks1, code, rfl, hz1, hi1, hs1, hz2, hw1, hwl, hz3, hz4, hb1, hz5⟩
                    have X4 := hidS (X3.out.map fun _ H => H.adds hb1 [fI x3.heap.size Xn1 vs1, fS x3.heap.size Yn1 ss1, fW x3.heap.size v1 wl] (rows3 hi1 hs1 hw1).1 (new_three _ _ _ _ _ _ _) (rows3 hi1 hs1 hw1).2)
                    obtain ⟨a1, n1, k1, rfl, hn1⟩ := iformL hi1
                    obtain ⟨a2, n2, k2, rfl, hn2⟩ := sformL hs1
                    obtain ⟨a3, n3, k3, rfl⟩ := wformL hw1
                    clear hz3 hz4 hz5 hi1 hs1 hw1 hb1 X3
                    refine hK _ _ ?_
                    clear hK K
                    refine wpAny_take (i := 4) (v := .tuple #[svv ep1 (.slice a1 n1 k1) (.slice a2 n2 k2), rvD re (.slice a3 n3 k3), u1, .int .i64 code]) rfl (by kernel_rfl) (by kernel_rfl) (by kernel_rfl) (fun _ _ _ h => h) (Or.inl ⟨by rfl, fun w => by go_simp⟩) ?_
                    refine wpAny_take (i := 5) (v := svv ep1 (.slice a1 n1 k1) (.slice a2 n2 k2)) rfl (by kernel_rfl) (by kernel_rfl) (by kernel_rfl) (fun _ _ _ h => h) (Or.inl ⟨by rfl, fun w => by go_simp⟩) ?_
                    refine wpAny_take (i := 6) (v := rvD re (.slice a3 n3 k3)) rfl (by kernel_rfl) (by kernel_rfl) (by kernel_rfl) (fun _ _ _ h => h) (Or.inl ⟨by rfl, fun w => by go_simp⟩) ?_
                    refine wpAny_take (i := 7) (v := u1) rfl (by kernel_rfl) (by kernel_rfl) (by kernel_rfl) (fun _ _ _ h => h) (Or.inl ⟨by rfl, fun w => by go_simp⟩) ?_
                    refine wpAny_take (i := 8) (v := .int .i64 code) rfl (by kernel_rfl) (by kernel_rfl) (by kernel_rfl) (fun _ _ _ h => h) (Or.inl ⟨by rfl, fun w => by go_simp⟩) ?_
                    obtain ⟨⟨t0, t1, t2⟩, t3, t4, t5⟩ := box3 X4.out.b0
                    have H11 := hidS (X4.out.map fun _ H => ((H.s300 (.int .i64 ep1)).s301 (.slice a1 n1 k1)).s302 (.slice a2 n2 k2))
                    refine wpAny_ready (rs := [11]) (by kernel_rfl) (by simp) ?_
                    refine AllReady.cons rfl (fun K hK => ?_) AllReady.nil
                    go_simp
                    refine hK _ _ ?_
                    clear hK K
                    clear t0 t1 t2 t3 t4 t5
                    generalize ((x4.setCell ⟨p4, 0, none⟩ (.int .i64 ep1)).setCell ⟨p4, 1, none⟩ (.slice a1 n1 k1)).setCell ⟨p4, 2, none⟩ (.slice a2 n2 k2) = y1 at H11 ⊢
                    obtain ⟨⟨t0, t1⟩, t3, t4⟩ := box2K H11.out.b1
                    have H12 := hidS (H11.out.map fun _ H => (H.s210 (.int .i64 re)).s211 (.slice a3 n3 k3))
                    clear H11
                    refine wpAny_ready (rs := [12]) (by kernel_rfl) (by simp) ?_
                    refine AllReady.cons rfl (fun K hK => ?_) AllReady.nil
                    go_simp
                    refine hK _ _ ?_
                    clear hK K
                    clear t0 t1 t3 t4
                    generalize (y1.setCell ⟨p5, 0, none⟩ (.int .i64 re)).setCell ⟨p5, 1, none⟩ (.slice a3 n3 k3) = y2 at H12 ⊢
                    refine wpAny_ready (rs := [13]) (by kernel_rfl) (by simp) ?_
                    refine AllReady.cons rfl (fun K hK => ?_) AllReady.nil
                    go_simp
                    refine hK _ _ ?_
                    clear hK K
                    refine wpAny_ready (rs := [14]) (by kernel_rfl) (by simp) ?_
                    refine AllReady.cons rfl (fun K hK => ?_) AllReady.nil
                    go_simp
                    refine hK _ _ ?_
                    clear hK K
                    refine wpAny_done (by kernel_rfl) ?_ _
                    go_wp2_with fail
                    go_meet
                    exact ⟨_, _, ep1, a1, n1, k1, a2, n2, k2, vs1, ss1, re, a3, n3, k3, wl, code, _, rfl, rfl, rfl, hn1, hn2, hz1, hz2, hwl, H12⟩
              · go_simp
                refine hK _ _ ?_
                clear hK K
                have X2 := hidS (X1.out.alloc (svb 0 (.slice none 0 0) (.slice none 0 0)))
                clear X1
                generalize x1.alloc (.cells #[.int .i64 0, .slice none 0 0, .slice none 0 0] 43) = x2 at X2 ⊢
                generalize x1.heap.size = p4 at X2 ⊢
                refine wpAny_ready (rs := [2]) (by kernel_rfl) (by simp) ?_
                refine AllReady.cons rfl (fun K hK => ?_) AllReady.nil
                · go_simp
                  refine (drawOp_any B R _ X2.out.rd).mono ?_
                  rintro e x3 ⟨k0, m0, rfl, hR0, hg0⟩
                  have X3 := hidS (X2.out.read hR0 hg0)
                  clear hR0 hg0 X2
                  refine hK _ _ ?_
                  clear hK K
                  refine wpAny_ready (rs := [3]) (by kernel_rfl) (by simp) ?_
                  refine AllReady.cons rfl (fun K hK => ?_) AllReady.nil
                  · go_simp
                    refine (specDone_any ep k0 m0 (show Ints bx (.slice ax nx cx) vs x3 from X3.out.at fun _ H => H.row (fI bx (.slice ax nx cx) vs) (by simp)) (show Seats by' (.slice ay ny cy) ss x3 from X3.out.at fun _ H => H.row (fS by' (.slice ay ny cy) ss) (by simp))).mono ?_
                    rintro e x4 ⟨ep1, Xn1, Yn1, vs1, ss1, re, v1, wl, u1, ks1, code, rfl, hz1, hi1, hs1, hz2, hw1, hwl, hz3, hz4, hb1, hz5⟩
                    have X4 := hidS (X3.out.map fun _ H => H.adds hb1 [fI x3.heap.size Xn1 vs1, fS x3.heap.size Yn1 ss1, fW x3.heap.size v1 wl] (rows3 hi1 hs1 hw1).1 (new_three _ _ _ _ _ _ _) (rows3 hi1 hs1 hw1).2)
                    obtain ⟨a1, n1, k1, rfl, hn1⟩ := iformL hi1
                    obtain ⟨a2, n2, k2, rfl, hn2⟩ := sformL hs1
                    obtain ⟨a3, n3, k3, rfl⟩ := wformL hw1
                    clear hz3 hz4 hz5 hi1 hs1 hw1 hb1 X3
                    refine hK _ _ ?_
                    clear hK K
                    refine wpAny_take (i := 4) (v := .tuple #[svv ep1 (.slice a1 n1 k1) (.slice a2 n2 k2), rvD re (.slice a3 n3 k3), u1, .int .i64 code]) rfl (by kernel_rfl) (by kernel_rfl) (by kernel_rfl) (fun _ _ _ h => h) (Or.inl ⟨by rfl, fun w => by go_simp⟩) ?_
                    refine wpAny_take (i := 5) (v := svv ep1 (.slice a1 n1 k1) (.slice a2 n2 k2)) rfl (by kernel_rfl) (by kernel_rfl) (by kernel_rfl) (fun _ _ _ h => h) (Or.inl ⟨by rfl, fun w => by go_simp⟩) ?_
                    refine wpAny_take (i := 6) (v := rvD re (.slice a3 n3 k3)) rfl (by kernel_rfl) (by kernel_rfl) (by kernel_rfl) (fun _ _ _ h => h) (Or.inl ⟨by rfl, fun w => by go_simp⟩) ?_
                    refine wpAny_take (i := 7) (v := u1) rfl (by kernel_rfl) (by kernel_rfl) (by kernel_rfl) (fun _ _ _ h => h) (Or.inl ⟨by rfl, fun w => by go_simp⟩) ?_
                    refine wpAny_take (i := 8) (v := .int .i64 code) rfl (by kernel_rfl) (by kernel_rfl) (by kernel_rfl) (fun _ _ _ h => h) (Or.inl ⟨by rfl, fun w => by go_simp⟩) ?_
                    obtain ⟨⟨t0, t1, t2⟩, t3, t4, t5⟩ := box3 X4.out.b0
                    have H11 := hidS (X4.out.map fun _ H => ((H.s300 (.int .i64 ep1)).s301 (.slice a1 n1 k1)).s302 (.slice a2 n2 k2))
                    refine wpAny_ready (rs := [11]) (by kernel_rfl) (by simp) ?_
                    refine AllReady.cons rfl (fun K hK => ?_) AllReady.nil
                    go_simp
                    refine hK _ _ ?_
                    clear hK K
                    clear t0 t1 t2 t3 t4 t5
                    generalize ((x4.setCell ⟨p4, 0, none⟩ (.int .i64 ep1)).setCell ⟨p4, 1, none⟩ (.slice a1 n1 k1)).setCell ⟨p4, 2, none⟩ (.slice a2 n2 k2) = y1 at H11 ⊢
                    obtain ⟨⟨t0, t1⟩, t3, t4⟩ := box2K H11.out.b1
                    have H12 := hidS (H11.out.map fun _ H => (H.s210 (.int .i64 re)).s211 (.slice a3 n3 k3))
                    clear H11
                    refine wpAny_ready (rs := [12]) (by kernel_rfl) (by simp) ?_
                    refine AllReady.cons rfl (fun K hK => ?_) AllReady.nil
                    go_simp
                    refine hK _ _ ?_
                    clear hK K
                    clear t0 t1 t3 t4
                    generalize (y1.setCell ⟨p5, 0, none⟩ (.int .i64 re)).setCell ⟨p5, 1, none⟩ (.slice a3 n3 k3) = y2 at H12 ⊢
                    refine wpAny_ready (rs := [13]) (by kernel_rfl) (by simp) ?_
                    refine AllReady.cons rfl (fun K hK => ?_) AllReady.nil
                    go_simp
                    refine hK _ _ ?_
                    clear hK K
                    refine wpAny_ready (rs := [14]) (by kernel_rfl) (by simp) ?_
                    refine AllReady.cons rfl (fun K hK => ?_) AllReady.nil
                    go_simp
                    refine hK _ _ ?_
                    clear hK K
                    refine wpAny_done (by kernel_rfl) ?_ _
                    go_wp2_with fail
                    go_meet
                    exact ⟨_, _, ep1, a1, n1, k1, a2, n2, k2, vs1, ss1, re, a3, n3, k3, wl, code, _, rfl, rfl, rfl, hn1, hn2, hz1, hz2, hwl, H12⟩
          · go_simp
            refine (drawOp_any B R _ X0.out.rd).mono ?_
            rintro e x1 ⟨k0, m0, rfl, hR0, hg0⟩
            have X1 := hidS (X0.out.read hR0 hg0)
            clear hR0 hg0 X0
            refine hK _ _ ?_
            clear hK K
            refine wpAny_ready (rs := [0, 9, 10]) (by kernel_rfl) (by simp) ?_
            refine AllReady.cons rfl (fun K hK => ?_) (AllReady.cons rfl (fun K hK => ?_) (AllReady.cons rfl (fun K hK => ?_) AllReady.nil))
            · obtain ⟨⟨o0, o1, o2⟩, o3, o4, o5⟩ := box3 (X1.out.at fun _ H => H.box (w3.heap.size, svb ep (.slice ax nx cx) (.slice ay ny cy)) (by simp))
              go_simp
              refine hK _ _ ?_
              clear hK K o0 o1 o2 o3 o4 o5
              refine wpAny_ready (rs := [3, 9, 10]) (by kernel_rfl) (by simp) ?_
              refine AllReady.cons rfl (fun K hK => ?_) (AllReady.cons rfl (fun K hK => ?_) (AllReady.cons rfl (fun K hK => ?_) AllReady.nil))
              · go_simp
                refine (specDone_any ep k0 m0 (show Ints bx (.slice ax nx cx) vs x1 from X1.out.at fun _ H => H.row (fI bx (.slice ax nx cx) vs) (by simp)) (show Seats by' (.slice ay ny cy) ss x1 from X1.out.at fun _ H => H.row (fS by' (.slice ay ny cy) ss) (by simp))).mono ?_
                rintro e x2 ⟨ep1, Xn1, Yn1, vs1, ss1, re, v1, wl, u1, ks1, code, rfl, hz1, hi1, hs1, hz2, hw1, hwl, hz3, hz4, hb1, hz5⟩
                have X2 := hidS (X1.out.map fun _ H => H.adds hb1 [fI x1.heap.size Xn1 vs1, fS x1.heap.size Yn1 ss1, fW x1.heap.size v1 wl] (rows3 hi1 hs1 hw1).1 (new_three _ _ _ _ _ _ _) (rows3 hi1 hs1 hw1).2)
                obtain ⟨a1, n1, k1, rfl, hn1⟩ := iformL hi1
                obtain ⟨a2, n2, k2, rfl, hn2⟩ := sformL hs1
                obtain ⟨a3, n3, k3, rfl⟩ := wformL hw1
                clear hz3 hz4 hz5 hi1 hs1 hw1 hb1 X1
                refine hK _ _ ?_
                clear hK K
                refine wpAny_take (i := 4) (v := .tuple #[svv ep1 (.slice a1 n1 k1) (.slice a2 n2 k2), rvD re (.slice a3 n3 k3), u1, .int .i64 code]) rfl (by kernel_rfl) (by kernel_rfl) (by kernel_rfl) (fun _ _ _ h => h) (Or.inl ⟨by rfl, fun w => by go_simp⟩) ?_
                refine wpAny_take (i := 5) (v := svv ep1 (.slice a1 n1 k1) (.slice a2 n2 k2)) rfl (by kernel_rfl) (by kernel_rfl) (by kernel_rfl) (fun _ _ _ h => h) (Or.inl ⟨by rfl, fun w => by go_simp⟩) ?_
                refine wpAny_take (i := 6) (v := rvD re (.slice a3 n3 k3)) rfl (by kernel_rfl) (by kernel_rfl) (by kernel_rfl) (fun _ _ _ h => h) (Or.inl ⟨by rfl, fun w => by go_simp⟩) ?_
                refine wpAny_take (i := 7) (v := u1) rfl (by kernel_rfl) (by kernel_rfl) (by kernel_rfl) (fun _ _ _ h => h) (Or.inl ⟨by rfl, fun w => by go_simp⟩) ?_
                refine wpAny_take (i := 8) (v := .int .i64 code) rfl (by kernel_rfl) (by kernel_rfl) (by kernel_rfl) (fun _ _ _ h => h) (Or.inl ⟨by rfl, fun w => by go_simp⟩) ?_
                refine wpAny_ready (rs := [9, 10]) (by kernel_rfl) (by simp) ?_
                refine AllReady.cons rfl (fun K hK => ?_) (AllReady.cons rfl (fun K hK => ?_) AllReady.nil)
                · go_simp
                  refine hK _ _ ?_
                  clear hK K
                  have X3 := hidS (X2.out.alloc (svb 0 (.slice none 0 0) (.slice none 0 0)))
                  clear X2
                  generalize x2.alloc (.cells #[.int .i64 0, .slice none 0 0, .slice none 0 0] 43) = x3 at X3 ⊢
                  generalize x2.heap.size = p4 at X3 ⊢
                  refine wpAny_ready (rs := [10]) (by kernel_rfl) (by simp) ?_
                  refine AllReady.cons rfl (fun K hK => ?_) AllReady.nil
                  · go_simp
                    refine hK _ _ ?_
                    clear hK K
                    have X4 := hidS (X3.out.alloc (rbD 0 (.slice none 0 0)))
                    clear X3
                    generalize x3.alloc (.cells #[.int .i64 0, .slice none 0 0] 29) = x4 at X4 ⊢
                    generalize x3.heap.size = p5 at X4 ⊢
                    have X4 := hidS (X4.out.permB (List.Perm.swap _ _ _))
                    obtain ⟨⟨t0, t1, t2⟩, t3, t4, t5⟩ := box3 X4.out.b0
                    have H11 := hidS (X4.out.map fun _ H => ((H.s300 (.int .i64 ep1)).s301 (.slice a1 n1 k1)).s302 (.slice a2 n2 k2))
                    refine wpAny_ready (rs := [11]) (by kernel_rfl) (by simp) ?_
                    refine AllReady.cons rfl (fun K hK => ?_) AllReady.nil
                    go_simp
                    refine hK _ _ ?_
                    clear hK K
                    clear t0 t1 t2 t3 t4 t5
                    generalize ((x4.setCell ⟨p4, 0, none⟩ (.int .i64 ep1)).setCell ⟨p4, 1, none⟩ (.slice a1 n1 k1)).setCell ⟨p4, 2, none⟩ (.slice a2 n2 k2) = y1 at H11 ⊢
                    obtain ⟨⟨t0, t1⟩, t3, t4⟩ := box2K H11.out.b1
                    have H12 := hidS (H11.out.map fun _ H => (H.s210 (.int .i64 re)).s211 (.slice a3 n3 k3))
                    clear H11
                    refine wpAny_ready (rs := [12]) (by kernel_rfl) (by simp) ?_
                    refine AllReady.cons rfl (fun K hK => ?_) AllReady.nil
                    go_simp
                    refine hK _ _ ?_
                    clear hK K
                    clear t0 t1 t3 t4
                    generalize (y1.setCell ⟨p5, 0, none⟩ (.int .i64 re)).setCell ⟨p5, 1, none⟩ (.slice a3 n3 k3) = y2 at H12 ⊢
                    refine wpAny_ready (rs := [13]) (by kernel_rfl) (by simp) ?_
                    refine AllReady.cons rfl (fun K hK => ?_) AllReady.nil
                    go_simp
                    refine hK _ _ ?_
                    clear hK K
                    refine wpAny_ready (rs := [14]) (by kernel_rfl) (by simp) ?_
                    refine AllReady.cons rfl (fun K hK => ?_) AllReady.nil
                    go_simp
                    refine hK _ _ ?_
                    clear hK K
                    refine wpAny_done (by kernel_rfl) ?_ _
                    go_wp2_with fail
                    go_meet
                    exact ⟨_, _, ep1, a1, n1, k1, a2, n2, k2, vs1, ss1, re, a3, n3, k3, wl, code, _, rfl, rfl, rfl, hn1, hn2, hz1, hz2, hwl, H12⟩
                · go_simp
                  refine hK _ _ ?_
                  clear hK K
                  have X3 := hidS (X2.out.alloc (rbD 0 (.slice none 0 0)))
                  clear X2
                  generalize x2.alloc (.cells #[.int .i64 0, .slice none 0 0] 29) = x3 at X3 ⊢
                  generalize x2.heap.size = p5 at X3 ⊢
                  refine wpAny_ready (rs := [9]) (by kernel_rfl) (by simp) ?_
                  refine AllReady.cons rfl (fun K hK => ?_) AllReady.nil
                  · go_simp
                    refine hK _ _ ?_
                    clear hK K
                    have X4 := hidS (X3.out.alloc (svb 0 (.slice none 0 0) (.slice none 0 0)))
                    clear X3
                    generalize x3.alloc (.cells #[.int .i64 0, .slice none 0 0, .slice none 0 0] 43) = x4 at X4 ⊢
                    generalize x3.heap.size = p4 at X4 ⊢
                    obtain ⟨⟨t0, t1, t2⟩, t3, t4, t5⟩ := box3 X4.out.b0
                    have H11 := hidS (X4.out.map fun _ H => ((H.s300 (.int .i64 ep1)).s301 (.slice a1 n1 k1)).s302 (.slice a2 n2 k2))
                    refine wpAny_ready (rs := [11]) (by kernel_rfl) (by simp) ?_
                    refine AllReady.cons rfl (fun K hK => ?_) AllReady.nil
                    go_simp
                    refine hK _ _ ?_
                    clear hK K
                    clear t0 t1 t2 t3 t4 t5
                    generalize ((x4.setCell ⟨p4, 0, none⟩ (.int .i64 ep1)).setCell ⟨p4, 1, none⟩ (.slice a1 n1 k1)).setCell ⟨p4, 2, none⟩ (.slice a2 n2 k2) = y1 at H11 ⊢
                    obtain ⟨⟨t0, t1⟩, t3, t4⟩ := box2K H11.out.b1
                    have H12 := hidS (H11.out.map fun _ H => (H.s210 (.int .i64 re)).s211 (.slice a3 n3 k3))
                    clear H11
                    refine wpAny_ready (rs := [12]) (by kernel_rfl) (by simp) ?_
                    refine AllReady.cons rfl (fun K hK => ?_) AllReady.nil
                    go_simp
                    refine hK _ _ ?_
                    clear hK K
                    clear t0 t1 t3 t4
                    generalize (y1.setCell ⟨p5, 0, none⟩ (.int .i64 re)).setCell ⟨p5, 1, none⟩ (.slice a3 n3 k3) = y2 at H12 ⊢
                    refine wpAny_ready (rs := [13]) (by kernel_rfl) (by simp) ?_
                    refine AllReady.cons rfl (fun K hK => ?_) AllReady.nil
                    go_simp
                    refine hK _ _ ?_
                    clear hK K
                    refine wpAny_ready (rs := [14]) (by kernel_rfl) (by simp) ?_
                    refine AllReady.cons rfl (fun K hK => ?_) AllReady.nil
                    go_simp
                    refine hK _ _ ?_
                    clear hK K
                    refine wpAny_done (by kernel_rfl) ?_ _
                    go_wp2_with fail
                    go_meet
                    exact ⟨_, _, ep1, a1, n1, k1, a2, n2, k2, vs1, ss1, re, a3, n3, k3, wl, code, _, rfl, rfl, rfl, hn1, hn2, hz1, hz2, hwl, H12⟩
              · go_simp
                refine hK _ _ ?_
                clear hK K
                have X2 := hidS (X1.out.alloc (svb 0 (.slice none 0 0) (.slice none 0 0)))
                clear X1
                generalize x1.alloc (.cells #[.int .i64 0, .slice none 0 0, .slice none 0 0] 43) = x2 at X2 ⊢
                generalize x1.heap.size = p4 at X2 ⊢
                refine wpAny_ready (rs := [3, 10]) (by kernel_rfl) (by simp) ?_
                refine AllReady.cons rfl (fun K hK => ?_) (AllReady.cons rfl (fun K hK => ?_) AllReady.nil)
                · go_simp
                  refine (specDone_any ep k0 m0 (show Ints bx (.slice ax nx cx) vs x2 from X2.out.at fun _ H => H.row (fI bx (.slice ax nx cx) vs) (by simp)) (show Seats by' (.slice ay ny cy) ss x2 from X2.out.at fun _ H => H.row (fS by' (.slice ay ny cy) ss) (by simp))).mono ?_
                  rintro e x3 ⟨ep1, Xn1, Yn1, vs1, ss1, re, v1, wl, u1, ks1, code, rfl, hz1, hi1, hs1, hz2, hw1, hwl, hz3, hz4, hb1, hz5⟩
                  have X3 := hidS (X2.out.map fun _ H => H.adds hb1 [fI x2.heap.size Xn1 vs1, fS x2.heap.size Yn1 ss1, fW x2.heap.size v1 wl] (rows3 hi1 hs1 hw1).1 (new_three _ _ _ _ _ _ _) (rows3 hi1 hs1 hw1).2)
                  obtain ⟨a1, n1, k1, rfl, hn1⟩ := iformL hi1
                  obtain ⟨a2, n2, k2, rfl, hn2⟩ := sformL hs1
                  obtain ⟨a3, n3, k3, rfl⟩ := wformL hw1
                  clear hz3 hz4 hz5 hi1 hs1 hw1 hb1 X2
                  refine hK _ _ ?_
                  clear hK K
                  refine wpAny_take (i := 4) (v := .tuple #[svv ep1 (.slice a1 n1 k1) (.slice a2 n2 k2), rvD re (.slice a3 n3 k3), u1, .int .i64 code]) rfl (by kernel_rfl) (by kernel_rfl) (by kernel_rfl) (fun _ _ _ h => h) (Or.inl ⟨by rfl, fun w => by go_simp⟩) ?_
                  refine wpAny_take (i := 5) (v := svv ep1 (.slice a1 n1 k1) (.slice a2 n2 k2)) rfl (by kernel_rfl) (by kernel_rfl) (by kernel_rfl) (fun _ _ _ h => h) (Or.inl ⟨by rfl, fun w => by go_simp⟩) ?_
                  refine wpAny_take (i := 6) (v := rvD re (.slice a3 n3 k3)) rfl (by kernel_rfl) (by kernel_rfl) (by kernel_rfl) (fun _ _ _ h => h) (Or.inl ⟨by rfl, fun w => by go_simp⟩) ?_
                  refine wpAny_take (i := 7) (v := u1) rfl (by kernel_rfl) (by kernel_rfl) (by kernel_rfl) (fun _ _ _ h => h) (Or.inl ⟨by rfl, fun w => by go_simp⟩) ?_
                  refine wpAny_take (i := 8) (v := .int .i64 code) rfl (by kernel_rfl) (by kernel_rfl) (by kernel_rfl) (fun _ _ _ h => h) (Or.inl ⟨by rfl, fun w => by go_simp⟩) ?_
                  refine wpAny_ready (rs := [10]) (by kernel_rfl) (by simp) ?_
                  refine AllReady.cons rfl (fun K hK => ?_) AllReady.nil
                  · go_simp
                    refine hK _ _ ?_
                    clear hK K
                    have X4 := hidS (X3.out.alloc (rbD 0 (.slice none 0 0)))
                    clear X3
                    generalize x3.alloc (.cells #[.int .i64 0, .slice none 0 0] 29) = x4 at X4 ⊢
                    generalize x3.heap.size = p5 at X4 ⊢
                    have X4 := hidS (X4.out.permB (List.Perm.swap _ _ _))
                    obtain ⟨⟨t0, t1, t2⟩, t3, t4, t5⟩ := box3 X4.out.b0
                    have H11 := hidS (X4.out.map fun _ H => ((H.s300 (.int .i64 ep1)).s301 (.slice a1 n1 k1)).s302 (.slice a2 n2 k2))
                    refine wpAny_ready (rs := [11]) (by kernel_rfl) (by simp) ?_
                    refine AllReady.cons rfl (fun K hK => ?_) AllReady.nil
                    go_simp
                    refine hK _ _ ?_
                    clear hK K
                    clear t0 t1 t2 t3 t4 t5
                    generalize ((x4.setCell ⟨p4, 0, none⟩ (.int .i64 ep1)).setCell ⟨p4, 1, none⟩ (.slice a1 n1 k1)).setCell ⟨p4, 2, none⟩ (.slice a2 n2 k2) = y1 at H11 ⊢
                    obtain ⟨⟨t0, t1⟩, t3, t4⟩ := box2K H11.out.b1
                    have H12 := hidS (H11.out.map fun _ H => (H.s210 (.int .i64 re)).s211 (.slice a3 n3 k3))
                    clear H11
                    refine wpAny_ready (rs := [12]) (by kernel_rfl) (by simp) ?_
                    refine AllReady.cons rfl (fun K hK => ?_) AllReady.nil
                    go_simp
                    refine hK _ _ ?_
                    clear hK K
                    clear t0 t1 t3 t4
                    generalize (y1.setCell ⟨p5, 0, none⟩ (.int .i64 re)).setCell ⟨p5, 1, none⟩ (.slice a3 n3 k3) = y2 at H12 ⊢
                    refine wpAny_ready (rs := [13]) (by kernel_rfl) (by simp) ?_
                    refine AllReady.cons rfl (fun K hK => ?_) AllReady.nil
                    go_simp
                    refine hK _ _ ?_
                    clear hK K
                    refine wpAny_ready (rs := [14]) (by kernel_rfl) (by simp) ?_
                    refine AllReady.cons rfl (fun K hK => ?_) AllReady.nil
                    go_simp
                    refine hK _ _ ?_
                    clear hK K
                    refine wpAny_done (by kernel_rfl) ?_ _
                    go_wp2_with fail
                    go_meet
                    exact ⟨_, _, ep1, a1, n1, k1, a2, n2, k2, vs1, ss1, re, a3, n3, k3, wl, code, _, rfl, rfl, rfl, hn1, hn2, hz1, hz2, hwl, H12⟩
                · go_simp
                  refine hK _ _ ?_
                  clear hK K
                  have X3 := hidS (X2.out.alloc (rbD 0 (.slice none 0 0)))
                  clear X2
                  generalize x2.alloc (.cells #[.int .i64 0, .slice none 0 0] 29) = x3 at X3 ⊢
                  generalize x2.heap.size = p5 at X3 ⊢
                  refine wpAny_ready (rs := [3]) (by kernel_rfl) (by simp) ?_
                  refine AllReady.cons rfl (fun K hK => ?_) AllReady.nil
                  · go_simp
                    refine (specDone_any ep k0 m0 (show Ints bx (.slice ax nx cx) vs x3 from X3.out.at fun _ H => H.row (fI bx (.slice ax nx cx) vs) (by simp)) (show Seats by' (.slice ay ny cy) ss x3 from X3.out.at fun _ H => H.row (fS by' (.slice ay ny cy) ss) (by simp))).mono ?_
                    rintro e x4 ⟨ep1, Xn1, Yn1, vs1, ss1, re, v1, wl, u1, ks1, code, rfl, hz1, hi1, hs1, hz2, hw1, hwl, hz3, hz4, hb1, hz5⟩
                    have X4 := hidS (X3.out.map fun _ H => H.adds hb1 [fI x3.heap.size Xn1 vs1, fS x3.heap.size Yn1 ss1, fW x3.heap.size v1 wl] (rows3 hi1 hs1 hw1).1 (new_three _ _ _ _ _ _ _) (rows3 hi1 hs1 hw1).2)
                    obtain ⟨a1, n1, k1, rfl, hn1⟩ := iformL hi1
                    obtain ⟨a2, n2, k2, rfl, hn2⟩ := sformL hs1
                    obtain ⟨a3, n3, k3, rfl⟩ := wformL hw1
                    clear hz3 hz4 hz5 hi1 hs1 hw1 hb1 X3
                    refine hK _ _ ?_
                    clear hK K
                    refine wpAny_take (i := 4) (v := .tuple #[svv ep1 (.slice a1 n1 k1) (.slice a2 n2 k2), rvD re (.slice a3 n3 k3), u1, .int .i64 code]) rfl (by kernel_rfl) (by kernel_rfl) (by kernel_rfl) (fun _ _ _ h => h) (Or.inl ⟨by rfl, fun w => by go_simp⟩) ?_
                    refine wpAny_take (i := 5) (v := svv ep1 (.slice a1 n1 k1) (.slice a2 n2 k2)) rfl (by kernel_rfl) (by kernel_rfl) (by kernel_rfl) (fun _ _ _ h => h) (Or.inl ⟨by rfl, fun w => by go_simp⟩) ?_
                    refine wpAny_take (i := 6) (v := rvD re (.slice a3 n3 k3)) rfl (by kernel_rfl) (by kernel_rfl) (by kernel_rfl) (fun _ _ _ h => h) (Or.inl ⟨by rfl, fun w => by go_simp⟩) ?_
                    refine wpAny_take (i := 7) (v := u1) rfl (by kernel_rfl) (by kernel_rfl) (by kernel_rfl) (fun _ _ _ h => h) (Or.inl ⟨by rfl, fun w => by go_simp⟩) ?_
                    refine wpAny_take (i := 8) (v := .int .i64 code) rfl (by kernel_rfl) (by kernel_rfl) (by kernel_rfl) (fun _ _ _ h => h) (Or.inl ⟨by rfl, fun w => by go_simp⟩) ?_
                    have X4 := hidS (X4.out.permB (List.Perm.swap _ _ _))
                    obtain ⟨⟨t0, t1, t2⟩, t3, t4, t5⟩ := box3 X4.out.b0
                    have H11 := hidS (X4.out.map fun _ H => ((H.s300 (.int .i64 ep1)).s301 (.slice a1 n1 k1)).s302 (.slice a2 n2 k2))
                    refine wpAny_ready (rs := [11]) (by kernel_rfl) (by simp) ?_
                    refine AllReady.cons rfl (fun K hK => ?_) AllReady.nil
                    go_simp
                    refine hK _ _ ?_
                    clear hK K
                    clear t0 t1 t2 t3 t4 t5
                    generalize ((x4.setCell ⟨p4, 0, none⟩ (.int .i64 ep1)).setCell ⟨p4, 1, none⟩ (.slice a1 n1 k1)).setCell ⟨p4, 2, none⟩ (.slice a2 n2 k2) = y1 at H11 ⊢
                    obtain ⟨⟨t0, t1⟩, t3, t4⟩ := box2K H11.out.b1
                    have H12 := hidS (H11.out.map fun _ H => (H.s210 (.int .i64 re)).s211 (.slice a3 n3 k3))
                    clear H11
                    refine wpAny_ready (rs := [12]) (by kernel_rfl) (by simp) ?_
                    refine AllReady.cons rfl (fun K hK => ?_) AllReady.nil
                    go_simp
                    refine hK _ _ ?_
                    clear hK K
                    clear t0 t1 t3 t4
                    generalize (y1.setCell ⟨p5, 0, none⟩ (.int .i64 re)).setCell ⟨p5, 1, none⟩ (.slice a3 n3 k3) = y2 at H12 ⊢
                    refine wpAny_ready (rs := [13]) (by kernel_rfl) (by simp) ?_
                    refine AllReady.cons rfl (fun K hK => ?_) AllReady.nil
                    go_simp
                    refine hK _ _ ?_
                    clear hK K
                    refine wpAny_ready (rs := [14]) (by kernel_rfl) (by simp) ?_
                    refine AllReady.cons rfl (fun K hK => ?_) AllReady.nil
                    go_simp
                    refine hK _ _ ?_
                    clear hK K
                    refine wpAny_done (by kernel_rfl) ?_ _
                    go_wp2_with fail
                    go_meet
                    exact ⟨_, _, ep1, a1, n1, k1, a2, n2, k2, vs1, ss1, re, a3, n3, k3, wl, code, _, rfl, rfl, rfl, hn1, hn2, hz1, hz2, hwl, H12⟩
              · go_simp
                refine hK _ _ ?_
                clear hK K
                have X2 := hidS (X1.out.alloc (rbD 0 (.slice none 0 0)))
                clear X1
                generalize x1.alloc (.cells #[.int .i64 0, .slice none 0 0] 29) = x2 at X2 ⊢
                generalize x1.heap.size = p5 at X2 ⊢
                refine wpAny_ready (rs := [3, 9]) (by kernel_rfl) (by simp) ?_
                refine AllReady.cons rfl (fun K hK => ?_) (AllReady.cons rfl (fun K hK => ?_) AllReady.nil)
                · go_simp
                  refine (specDone_any ep k0 m0 (show Ints bx (.slice ax nx cx) vs x2 from X2.out.at fun _ H => H.row (fI bx (.slice ax nx cx) vs) (by simp)) (show Seats by' (.slice ay ny cy) ss x2 from X2.out.at fun _ H => H.row (fS by' (.slice ay ny cy) ss) (by simp))).mono ?_
                  rintro e x3 ⟨ep1, Xn1, Yn1, vs1, ss1, re, v1, wl, u1, ks1, code, rfl, hz1, hi1, hs1, hz2, hw1, hwl, hz3, hz4, hb1, hz5⟩
                  have X3 := hidS (X2.out.map fun _ H => H.adds hb1 [fI x2.heap.size Xn1 vs1, fS x2.heap.size Yn1 ss1, fW x2.heap.size v1 wl] (rows3 hi1 hs1 hw1).1 (new_three _ _ _ _ _ _ _) (rows3 hi1 hs1 hw1).2)
                  obtain ⟨a1, n1, k1, rfl, hn1⟩ := iformL hi1
                  obtain ⟨a2, n2, k2, rfl, hn2⟩ := sformL hs1
                  obtain ⟨a3, n3, k3, rfl⟩ := wformL hw1
                  clear hz3 hz4 hz5 hi1 hs1 hw1 hb1 X2
                  refine hK _ _ ?_
                  clear hK K
                  refine wpAny_take (i := 4) (v := .tuple #[svv ep1 (.slice a1 n1 k1) (.slice a2 n2 k2), rvD re (.slice a3 n3 k3), u1, .int .i64 code]) rfl (by kernel_rfl) (by kernel_rfl) (by kernel_rfl) (fun _ _ _ h => h) (Or.inl ⟨by rfl, fun w => by go_simp⟩) ?_
                  refine wpAny_take (i := 5) (v := svv ep1 (.slice a1 n1 k1) (.slice a2 n2 k2)) rfl (by kernel_rfl) (by kernel_rfl) (by kernel_rfl) (fun _ _ _ h => h) (Or.inl ⟨by rfl, fun w => by go_simp⟩) ?_
                  refine wpAny_take (i := 6) (v := rvD re (.slice a3 n3 k3)) rfl (by kernel_rfl) (by kernel_rfl) (by kernel_rfl) (fun _ _ _ h => h) (Or.inl ⟨by rfl, fun w => by go_simp⟩) ?_
                  refine wpAny_take (i := 7) (v := u1) rfl (by kernel_rfl) (by kernel_rfl) (by kernel_rfl) (fun _ _ _ h => h) (Or.inl ⟨by rfl, fun w => by go_simp⟩) ?_
                  refine wpAny_take (i := 8) (v := .int .i64 code) rfl (by kernel_rfl) (by kernel_rfl) (by kernel_rfl) (fun _ _ _ h => h) (Or.inl ⟨by rfl, fun w => by go_simp⟩) ?_
                  refine wpAny_ready (rs := [9]) (by kernel_rfl) (by simp) ?_
                  refine AllReady.cons rfl (fun K hK => ?_) AllReady.nil
                  · go_simp
                    refine hK _ _ ?_
                    clear hK K
                    have X4 := hidS (X3.out.alloc (svb 0 (.slice none 0 0) (.slice none 0 0)))
                    clear X3
                    generalize x3.alloc (.cells #[.int .i64 0, .slice none 0 0, .slice none 0 0] 43) = x4 at X4 ⊢
                    generalize x3.heap.size = p4 at X4 ⊢
                    obtain ⟨⟨t0, t1, t2⟩, t3, t4, t5⟩ := box3 X4.out.b0
                    have H11 := hidS (X4.out.map fun _ H => ((H.s300 (.int .i64 ep1)).s301 (.slice a1 n1 k1)).s302 (.slice a2 n2 k2))
                    refine wpAny_ready (rs := [11]) (by kernel_rfl) (by simp) ?_
                    refine AllReady.cons rfl (fun K hK => ?_) AllReady.nil
                    go_simp
                    refine hK _ _ ?_
                    clear hK K
                    clear t0 t1 t2 t3 t4 t5
                    generalize ((x4.setCell ⟨p4, 0, none⟩ (.int .i64 ep1)).setCell ⟨p4, 1, none⟩ (.slice a1 n1 k1)).setCell ⟨p4, 2, none⟩ (.slice a2 n2 k2) = y1 at H11 ⊢
                    obtain ⟨⟨t0, t1⟩, t3, t4⟩ := box2K H11.out.b1
                    have H12 := hidS (H11.out.map fun _ H => (H.s210 (.int .i64 re)).s211 (.slice a3 n3 k3))
                    clear H11
                    refine wpAny_ready (rs := [12]) (by kernel_rfl) (by simp) ?_
                    refine AllReady.cons rfl (fun K hK => ?_) AllReady.nil
                    go_simp
                    refine hK _ _ ?_
                    clear hK K
                    clear t0 t1 t3 t4
                    generalize (y1.setCell ⟨p5, 0, none⟩ (.int .i64 re)).setCell ⟨p5, 1, none⟩ (.slice a3 n3 k3) = y2 at H12 ⊢
                    refine wpAny_ready (rs := [13]) (by kernel_rfl) (by simp) ?_
                    refine AllReady.cons rfl (fun K hK => ?_) AllReady.nil
                    go_simp
                    refine hK _ _ ?_
                    clear hK K
                    refine wpAny_ready (rs := [14]) (by kernel_rfl) (by simp) ?_
                    refine AllReady.cons rfl (fun K hK => ?_) AllReady.nil
                    go_simp
                    refine hK _ _ ?_
                    clear hK K
                    refine wpAny_done (by kernel_rfl) ?_ _
                    go_wp2_with fail
                    go_meet
                    exact ⟨_, _, ep1, a1, n1, k1, a2, n2, k2, vs1, ss1, re, a3, n3, k3, wl, code, _, rfl, rfl, rfl, hn1, hn2, hz1, hz2, hwl, H12⟩
                · go_simp
                  refine hK _ _ ?_
                  clear hK K
                  have X3 := hidS (X2.out.alloc (svb 0 (.slice none 0 0) (.slice none 0 0)))
                  clear X2
                  generalize x2.alloc (.cells #[.int .i64 0, .slice none 0 0, .slice none 0 0] 43) = x3 at X3 ⊢
                  generalize x2.heap.size = p4 at X3 ⊢
                  refine wpAny_ready (rs := [3]) (by kernel_rfl) (by simp) ?_
                  refine AllReady.cons rfl (fun K hK => ?_) AllReady.nil
                  · go_simp
                    refine (specDone_any ep k0 m0 (show Ints bx (.slice ax nx cx) vs x3 from X3.out.at fun _ H => H.row (fI bx (.slice ax nx cx) vs) (by simp)) (show Seats by' (.slice ay ny cy) ss x3 from X3.out.at fun _ H => H.row (fS by' (.slice ay ny cy) ss) (by simp))).mono ?_
                    rintro e x4 ⟨ep1, Xn1, Yn1, vs1, ss1, re, v1, wl, u1, ks1, code, rfl, hz1, hi1, hs1, hz2, hw1, hwl, hz3, hz4, hb1, hz5⟩
                    have X4 := hidS (X3.out.map fun _ H => H.adds hb1 [fI x3.heap.size Xn1 vs1, fS x3.heap.size Yn1 ss1, fW x3.heap.size v1 wl] (rows3 hi1 hs1 hw1).1 (new_three _ _ _ _ _ _ _) (rows3 hi1 hs1 hw1).2)
                    obtain ⟨a1, n1, k1, rfl, hn1⟩ := iformL hi1
                    obtain ⟨a2, n2, k2, rfl, hn2⟩ := sformL hs1
                    obtain ⟨a3, n3, k3, rfl⟩ := wformL hw1
                    clear hz3 hz4 hz5 hi1 hs1 hw1 hb1 X3
                    refine hK _ _ ?_
                    clear hK K
                    refine wpAny_take (i := 4) (v := .tuple #[svv ep1 (.slice a1 n1 k1) (.slice a2 n2 k2), rvD re (.slice a3 n3 k3), u1, .int .i64 code]) rfl (by kernel_rfl) (by kernel_rfl) (by kernel_rfl) (fun _ _ _ h => h) (Or.inl ⟨by rfl, fun w => by go_simp⟩) ?_
                    refine wpAny_take (i := 5) (v := svv ep1 (.slice a1 n1 k1) (.slice a2 n2 k2)) rfl (by kernel_rfl) (by kernel_rfl) (by kernel_rfl) (fun _ _ _ h => h) (Or.inl ⟨by rfl, fun w => by go_simp⟩) ?_
                    refine wpAny_take (i := 6) (v := rvD re (.slice a3 n3 k3)) rfl (by kernel_rfl) (by kernel_rfl) (by kernel_rfl) (fun _ _ _ h => h) (Or.inl ⟨by rfl, fun w => by go_simp⟩) ?_
                    refine wpAny_take (i := 7) (v := u1) rfl (by kernel_rfl) (by kernel_rfl) (by kernel_rfl) (fun _ _ _ h => h) (Or.inl ⟨by rfl, fun w => by go_simp⟩) ?_
                    refine wpAny_take (i := 8) (v := .int .i64 code) rfl (by kernel_rfl) (by kernel_rfl) (by kernel_rfl) (fun _ _ _ h => h) (Or.inl ⟨by rfl, fun w => by go_simp⟩) ?_
                    obtain ⟨⟨t0, t1, t2⟩, t3, t4, t5⟩ := box3 X4.out.b0
                    have H11 := hidS (X4.out.map fun _ H => ((H.s300 (.int .i64 ep1)).s301 (.slice a1 n1 k1)).s302 (.slice a2 n2 k2))
                    refine wpAny_ready (rs := [11]) (by kernel_rfl) (by simp) ?_
                    refine AllReady.cons rfl (fun K hK => ?_) AllReady.nil
                    go_simp
                    refine hK _ _ ?_
                    clear hK K
                    clear t0 t1 t2 t3 t4 t5
                    generalize ((x4.setCell ⟨p4, 0, none⟩ (.int .i64 ep1)).setCell ⟨p4, 1, none⟩ (.slice a1 n1 k1)).setCell ⟨p4, 2, none⟩ (.slice a2 n2 k2) = y1 at H11 ⊢
                    obtain ⟨⟨t0, t1⟩, t3, t4⟩ := box2K H11.out.b1
                    have H12 := hidS (H11.out.map fun _ H => (H.s210 (.int .i64 re)).s211 (.slice a3 n3 k3))
                    clear H11
                    refine wpAny_ready (rs := [12]) (by kernel_rfl) (by simp) ?_
                    refine AllReady.cons rfl (fun K hK => ?_) AllReady.nil
                    go_simp
                    refine hK _ _ ?_
                    clear hK K
                    clear t0 t1 t3 t4
                    generalize (y1.setCell ⟨p5, 0, none⟩ (.int .i64 re)).setCell ⟨p5, 1, none⟩ (.slice a3 n3 k3) = y2 at H12 ⊢
                    refine wpAny_ready (rs := [13]) (by kernel_rfl) (by simp) ?_
                    refine AllReady.cons rfl (fun K hK => ?_) AllReady.nil
                    go_simp
                    refine hK _ _ ?_
                    clear hK K
                    refine wpAny_ready (rs := [14]) (by kernel_rfl) (by simp) ?_
                    refine AllReady.cons rfl (fun K hK => ?_) AllReady.nil
                    go_simp
                    refine hK _ _ ?_
                    clear hK K
                    refine wpAny_done (by kernel_rfl) ?_ _
                    go_wp2_with fail
                    go_meet
                    exact ⟨_, _, ep1, a1, n1, k1, a2, n2, k2, vs1, ss1, re, a3, n3, k3, wl, code, _, rfl, rfl, rfl, hn1, hn2, hz1, hz2, hwl, H12⟩
            · go_simp
              refine hK _ _ ?_
              clear hK K
              have X2 := hidS (X1.out.alloc (svb 0 (.slice none 0 0) (.slice none 0 0)))
              clear X1
              generalize x1.alloc (.cells #[.int .i64 0, .slice none 0 0, .slice none 0 0] 43) = x2 at X2 ⊢
              generalize x1.heap.size = p4 at X2 ⊢
              refine wpAny_ready (rs := [0, 10]) (by kernel_rfl) (by simp) ?_
              refine AllReady.cons rfl (fun K hK => ?_) (AllReady.cons rfl (fun K hK => ?_) AllReady.nil)
              · obtain ⟨⟨o0, o1, o2⟩, o3, o4, o5⟩ := box3 (X2.out.at fun _ H => H.box (w3.heap.size, svb ep (.slice ax nx cx) (.slice ay ny cy)) (by simp))
                go_simp
                refine hK _ _ ?_
                clear hK K o0 o1 o2 o3 o4 o5
                refine wpAny_ready (rs := [3, 10]) (by kernel_rfl) (by simp) ?_
                refine AllReady.cons rfl (fun K hK => ?_) (AllReady.cons rfl (fun K hK => ?_) AllReady.nil)
                · go_simp
                  refine (specDone_any ep k0 m0 (show Ints bx (.slice ax nx cx) vs x2 from X2.out.at fun _ H => H.row (fI bx (.slice ax nx cx) vs) (by simp)) (show Seats by' (.slice ay ny cy) ss x2 from X2.out.at fun _ H => H.row (fS by' (.slice ay ny cy) ss) (by simp))).mono ?_
                  rintro e x3 ⟨ep1, Xn1, Yn1, vs1, ss1, re, v1, wl, u1, ks1, code, rfl, hz1, hi1, hs1, hz2, hw1, hwl, hz3, hz4, hb1, hz5⟩
                  have X3 := hidS (X2.out.map fun _ H => H.adds hb1 [fI x2.heap.size Xn1 vs1, fS x2.heap.size Yn1 ss1, fW x2.heap.size v1 wl] (rows3 hi1 hs1 hw1).1 (new_three _ _ _ _ _ _ _) (rows3 hi1 hs1 hw1).2)
                  obtain ⟨a1, n1, k1, rfl, hn1⟩ := iformL hi1
                  obtain ⟨a2, n2, k2, rfl, hn2⟩ := sformL hs1
                  obtain ⟨a3, n3, k3, rfl⟩ := wformL hw1
                  clear hz3 hz4 hz5 hi1 hs1 hw1 hb1 X2
                  refine hK _ _ ?_
                  clear hK K
                  refine wpAny_take (i := 4) (v := .tuple #[svv ep1 (.slice a1 n1 k1) (.slice a2 n2 k2), rvD re (.slice a3 n3 k3), u1, .int .i64 code]) rfl (by kernel_rfl) (by kernel_rfl) (by kernel_rfl) (fun _ _ _ h => h) (Or.inl ⟨by rfl, fun w => by go_simp⟩) ?_
                  refine wpAny_take (i := 5) (v := svv ep1 (.slice a1 n1 k1) (.slice a2 n2 k2)) rfl (by kernel_rfl) (by kernel_rfl) (by kernel_rfl) (fun _ _ _ h => h) (Or.inl ⟨by rfl, fun w => by go_simp⟩) ?_
                  refine wpAny_take (i := 6) (v := rvD re (.slice a3 n3 k3)) rfl (by kernel_rfl) (by kernel_rfl) (by kernel_rfl) (fun _ _ _ h => h) (Or.inl ⟨by rfl, fun w => by go_simp⟩) ?_
                  refine wpAny_take (i := 7) (v := u1) rfl (by kernel_rfl) (by kernel_rfl) (by kernel_rfl) (fun _ _ _ h => h) (Or.inl ⟨by rfl, fun w => by go_simp⟩) ?_
                  refine wpAny_take (i := 8) (v := .int .i64 code) rfl (by kernel_rfl) (by kernel_rfl) (by kernel_rfl) (fun _ _ _ h => h) (Or.inl ⟨by rfl, fun w => by go_simp⟩) ?_
                  refine wpAny_ready (rs := [10]) (by kernel_rfl) (by simp) ?_
                  refine AllReady.cons rfl (fun K hK => ?_) AllReady.nil
                  · go_simp
                    refine hK _ _ ?_
                    clear hK K
                    have X4 := hidS (X3.out.alloc (rbD 0 (.slice none 0 0)))
                    clear X3
                    generalize x3.alloc (.cells #[.int .i64 0, .slice none 0 0] 29) = x4 at X4 ⊢
                    generalize x3.heap.size = p5 at X4 ⊢
                    have X4 := hidS (X4.out.permB (List.Perm.swap _ _ _))
                    obtain ⟨⟨t0, t1, t2⟩, t3, t4, t5⟩ := box3 X4.out.b0
                    have H11 := hidS (X4.out.map fun _ H => ((H.s300 (.int .i64 ep1)).s301 (.slice a1 n1 k1)).s302 (.slice a2 n2 k2))
                    refine wpAny_ready (rs := [11]) (by kernel_rfl) (by simp) ?_
                    refine AllReady.cons rfl (fun K hK => ?_) AllReady.nil
                    go_simp
                    refine hK _ _ ?_
                    clear hK K
                    clear t0 t1 t2 t3 t4 t5
                    generalize ((x4.setCell ⟨p4, 0, none⟩ (.int .i64 ep1)).setCell ⟨p4, 1, none⟩ (.slice a1 n1 k1)).setCell ⟨p4, 2, none⟩ (.slice a2 n2 k2) = y1 at H11 ⊢
                    obtain ⟨⟨t0, t1⟩, t3, t4⟩ := box2K H11.out.b1
                    have H12 := hidS (H11.out.map fun _ H => (H.s210 (.int .i64 re)).s211 (.slice a3 n3 k3))
                    clear H11
                    refine wpAny_ready (rs := [12]) (by kernel_rfl) (by simp) ?_
                    refine AllReady.cons rfl (fun K hK => ?_) AllReady.nil
                    go_simp
                    refine hK _ _ ?_
                    clear hK K
                    clear t0 t1 t3 t4
                    generalize (y1.setCell ⟨p5, 0, none⟩ (.int .i64 re)).setCell ⟨p5, 1, none⟩ (.slice a3 n3 k3) = y2 at H12 ⊢
                    refine wpAny_ready (rs := [13]) (by kernel_rfl) (by simp) ?_
                    refine AllReady.cons rfl (fun K hK => ?_) AllReady.nil
                    go_simp
                    refine hK _ _ ?_
                    clear hK K
                    refine wpAny_ready (rs := [14]) (by kernel_rfl) (by simp) ?_
                    refine AllReady.cons rfl (fun K hK => ?_) AllReady.nil
                    go_simp
                    refine hK _ _ ?_
                    clear hK K
                    refine wpAny_done (by kernel_rfl) ?_ _
                    go_wp2_with fail
                    go_meet
                    exact ⟨_, _, ep1, a1, n1, k1, a2, n2, k2, vs1, ss1, re, a3, n3, k3, wl, code, _, rfl, rfl, rfl, hn1, hn2, hz1, hz2, hwl, H12⟩
                · go_simp
                  refine hK _ _ ?_
                  clear hK K
                  have X3 := hidS (X2.out.alloc (rbD 0 (.slice none 0 0)))
                  clear X2
                  generalize x2.alloc (.cells #[.int .i64 0, .slice none 0 0] 29) = x3 at X3 ⊢
                  generalize x2.heap.size = p5 at X3 ⊢
                  refine wpAny_ready (rs := [3]) (by kernel_rfl) (by simp) ?_
                  refine AllReady.cons rfl (fun K hK => ?_) AllReady.nil
                  · go_simp
                    refine (specDone_any ep k0 m0 (show Ints bx (.slice ax nx cx) vs x3 from X3.out.at fun _ H => H.row (fI bx (.slice ax nx cx) vs) (by simp)) (show Seats by' (.slice ay ny cy) ss x3 from X3.out.at fun _ H => H.row (fS by' (.slice ay ny cy) ss) (by simp))).mono ?_
                    rintro e x4 ⟨ep1, Xn1, Yn1, vs1, ss1, re, v1, wl, u1, ks1, code, rfl, hz1, hi1, hs1, hz2, hw1, hwl, hz3, hz4, hb1, hz5⟩
                    have X4 := hidS (X3.out.map fun _ H => H.adds hb1 [fI x3.heap.size Xn1 vs1, fS x3.heap.size Yn1 ss1, fW x3.heap.size v1 wl] (rows3 hi1 hs1 hw1).1 (new_three _ _ _ _ _ _ _) (rows3 hi1 hs1 hw1).2)
                    obtain ⟨a1, n1, k1, rfl, hn1⟩ := iformL hi1
                    obtain ⟨a2, n2, k2, rfl, hn2⟩ := sformL hs1
                    obtain ⟨a3, n3, k3, rfl⟩ := wformL hw1
                    clear hz3 hz4 hz5 hi1 hs1 hw1 hb1 X3
                    refine hK _ _ ?_
                    clear hK K
                    refine wpAny_take (i := 4) (v := .tuple #[svv ep1 (.slice a1 n1 k1) (.slice a2 n2 k2), rvD re (.slice a3 n3 k3), u1, .int .i64 code]) rfl (by kernel_rfl) (by kernel_rfl) (by kernel_rfl) (fun _ _ _ h => h) (Or.inl ⟨by rfl, fun w => by go_simp⟩) ?_
                    refine wpAny_take (i := 5) (v := svv ep1 (.slice a1 n1 k1) (.slice a2 n2 k2)) rfl (by kernel_rfl) (by kernel_rfl) (by kernel_rfl) (fun _ _ _ h => h) (Or.inl ⟨by rfl, fun w => by go_simp⟩) ?_
                    refine wpAny_take (i := 6) (v := rvD re (.slice a3 n3 k3)) rfl (by kernel_rfl) (by kernel_rfl) (by kernel_rfl) (fun _ _ _ h => h) (Or.inl ⟨by rfl, fun w => by go_simp⟩) ?_
                    refine wpAny_take (i := 7) (v := u1) rfl (by kernel_rfl) (by kernel_rfl) (by kernel_rfl) (fun _ _ _ h => h) (Or.inl ⟨by rfl, fun w => by go_simp⟩) ?_
                    refine wpAny_take (i := 8) (v := .int .i64 code) rfl (by kernel_rfl) (by kernel_rfl) (by kernel_rfl) (fun _ _ _ h => h) (Or.inl ⟨by rfl, fun w => by go_simp⟩) ?_
                    have X4 := hidS (X4.out.permB (List.Perm.swap _ _ _))
                    obtain ⟨⟨t0, t1, t2⟩, t3, t4, t5⟩ := box3 X4.out.b0
                    have H11 := hidS (X4.out.map fun _ H => ((H.s300 (.int .i64 ep1)).s301 (.slice a1 n1 k1)).s302 (.slice a2 n2 k2))
                    refine wpAny_ready (rs := [11]) (by kernel_rfl) (by simp) ?_
                    refine AllReady.cons rfl (fun K hK => ?_) AllReady.nil
                    go_simp
                    refine hK _ _ ?_
                    clear hK K
                    clear t0 t1 t2 t3 t4 t5
                    generalize ((x4.setCell ⟨p4, 0, none⟩ (.int .i64 ep1)).setCell ⟨p4, 1, none⟩ (.slice a1 n1 k1)).setCell ⟨p4, 2, none⟩ (.slice a2 n2 k2) = y1 at H11 ⊢
                    obtain ⟨⟨t0, t1⟩, t3, t4⟩ := box2K H11.out.b1
                    have H12 := hidS (H11.out.map fun _ H => (H.s210 (.int .i64 re)).s211 (.slice a3 n3 k3))
                    clear H11
                    refine wpAny_ready (rs := [12]) (by kernel_rfl) (by simp) ?_
                    refine AllReady.cons rfl (fun K hK => ?_) AllReady.nil
                    go_simp
                    refine hK _ _ ?_
                    clear hK K
                    clear t0 t1 t3 t4
                    generalize (y1.setCell ⟨p5, 0, none⟩ (.int .i64 re)).setCell ⟨p5, 1, none⟩ (.slice a3 n3 k3) = y2 at H12 ⊢
                    refine wpAny_ready (rs := [13]) (by kernel_rfl) (by simp) ?_
                    refine AllReady.cons rfl (fun K hK => ?_) AllReady.nil
                    go_simp
                    refine hK _ _ ?_
                    clear hK K
                    refine wpAny_ready (rs := [14]) (by kernel_rfl) (by simp) ?_
                    refine AllReady.cons rfl (fun K hK => ?_) AllReady.nil
                    go_simp
                    refine hK _ _ ?_
                    clear hK K
                    refine wpAny_done (by kernel_rfl) ?_ _
                    go_wp2_with fail
                    go_meet
                    exact ⟨_, _, ep1, a1, n1, k1, a2, n2, k2, vs1, ss1, re, a3, n3, k3, wl, code, _, rfl, rfl, rfl, hn1, hn2, hz1, hz2, hwl, H12⟩
              · go_simp
                refine hK _ _ ?_
                clear hK K
                have X3 := hidS (X2.out.alloc (rbD 0 (.slice none 0 0)))
                clear X2
                generalize x2.alloc (.cells #[.int .i64 0, .slice none 0 0] 29) = x3 at X3 ⊢
                generalize x2.heap.size = p5 at X3 ⊢
                refine wpAny_ready (rs := [0]) (by kernel_rfl) (by simp) ?_
                refine AllReady.cons rfl (fun K hK => ?_) AllReady.nil
                · obtain ⟨⟨o0, o1, o2⟩, o3, o4, o5⟩ := box3 (X3.out.at fun _ H => H.box (w3.heap.size, svb ep (.slice ax nx cx) (.slice ay ny cy)) (by simp))
                  go_simp
                  refine hK _ _ ?_
                  clear hK K o0 o1 o2 o3 o4 o5
                  refine wpAny_ready (rs := [3]) (by kernel_rfl) (by simp) ?_
                  refine AllReady.cons rfl (fun K hK => ?_) AllReady.nil
                  · go_simp
                    refine (specDone_any ep k0 m0 (show Ints bx (.slice ax nx cx) vs x3 from X3.out.at fun _ H => H.row (fI bx (.slice ax nx cx) vs) (by simp)) (show Seats by' (.slice ay ny cy) ss x3 from X3.out.at fun _ H => H.row (fS by' (.slice ay ny cy) ss) (by simp))).mono ?_
                    rintro e x4 ⟨ep1, Xn1, Yn1, vs1, ss1, re, v1, wl, u1, ks1, code, rfl, hz1, hi1, hs1, hz2, hw1, hwl, hz3, hz4, hb1, hz5⟩
                    have X4 := hidS (X3.out.map fun _ H => H.adds hb1 [fI x3.heap.size Xn1 vs1, fS x3.heap.size Yn1 ss1, fW x3.heap.size v1 wl] (rows3 hi1 hs1 hw1).1 (new_three _ _ _ _ _ _ _) (rows3 hi1 hs1 hw1).2)
                    obtain ⟨a1, n1, k1, rfl, hn1⟩ := iformL hi1
                    obtain ⟨a2, n2, k2, rfl, hn2⟩ := sformL hs1
                    obtain ⟨a3, n3, k3, rfl⟩ := wformL hw1
                    clear hz3 hz4 hz5 hi1 hs1 hw1 hb1 X3
                    refine hK _ _ ?_
                    clear hK K
                    refine wpAny_take (i := 4) (v := .tuple #[svv ep1 (.slice a1 n1 k1) (.slice a2 n2 k2), rvD re (.slice a3 n3 k3), u1, .int .i64 code]) rfl (by kernel_rfl) (by kernel_rfl) (by kernel_rfl) (fun _ _ _ h => h) (Or.inl ⟨by rfl, fun w => by go_simp⟩) ?_
                    refine wpAny_take (i := 5) (v := svv ep1 (.slice a1 n1 k1) (.slice a2 n2 k2)) rfl (by kernel_rfl) (by kernel_rfl) (by kernel_rfl) (fun _ _ _ h => h) (Or.inl ⟨by rfl, fun w => by go_simp⟩) ?_
                    refine wpAny_take (i := 6) (v := rvD re (.slice a3 n3 k3)) rfl (by kernel_rfl) (by kernel_rfl) (by kernel_rfl) (fun _ _ _ h => h) (Or.inl ⟨by rfl, fun w => by go_simp⟩) ?_
                    refine wpAny_take (i := 7) (v := u1) rfl (by kernel_rfl) (by kernel_rfl) (by kernel_rfl) (fun _ _ _ h => h) (Or.inl ⟨by rfl, fun w => by go_simp⟩) ?_
                    refine wpAny_take (i := 8) (v := .int .i64 code) rfl (by kernel_rfl) (by kernel_rfl) (by kernel_rfl) (fun _ _ _ h => h) (Or.inl ⟨by rfl, fun w => by go_simp⟩) ?_
                    have X4 := hidS (X4.out.permB (List.Perm.swap _ _ _))
                    obtain ⟨⟨t0, t1, t2⟩, t3, t4, t5⟩ := box3 X4.out.b0
                    have H11 := hidS (X4.out.map fun _ H => ((H.s300 (.int .i64 ep1)).s301 (.slice a1 n1 k1)).s302 (.slice a2 n2 k2))
                    refine wpAny_ready (rs := [11]) (by kernel_rfl) (by simp) ?_
                    refine AllReady.cons rfl (fun K hK => ?_) AllReady.nil
                    go_simp
                    refine hK _ _ ?_
                    clear hK K
                    clear t0 t1 t2 t3 t4 t5
                    generalize ((x4.setCell ⟨p4, 0, none⟩ (.int .i64 ep1)).setCell ⟨p4, 1, none⟩ (.slice a1 n1 k1)).setCell ⟨p4, 2, none⟩ (.slice a2 n2 k2) = y1 at H11 ⊢
                    obtain ⟨⟨t0, t1⟩, t3, t4⟩ := box2K H11.out.b1
                    have H12 := hidS (H11.out.map fun _ H => (H.s210 (.int .i64 re)).s211 (.slice a3 n3 k3))
                    clear H11
                    refine wpAny_ready (rs := [12]) (by kernel_rfl) (by simp) ?_
                    refine AllReady.cons rfl (fun K hK => ?_) AllReady.nil
                    go_simp
                    refine hK _ _ ?_
                    clear hK K
                    clear t0 t1 t3 t4
                    generalize (y1.setCell ⟨p5, 0, none⟩ (.int .i64 re)).setCell ⟨p5, 1, none⟩ (.slice a3 n3 k3) = y2 at H12 ⊢
                    refine wpAny_ready (rs := [13]) (by kernel_rfl) (by simp) ?_
                    refine AllReady.cons rfl (fun K hK => ?_) AllReady.nil
                    go_simp
                    refine hK _ _ ?_
                    clear hK K
                    refine wpAny_ready (rs := [14]) (by kernel_rfl) (by simp) ?_
                    refine AllReady.cons rfl (fun K hK => ?_) AllReady.nil
                    go_simp
                    refine hK _ _ ?_
                    clear hK K
                    refine wpAny_done (by kernel_rfl) ?_ _
                    go_wp2_with fail
                    go_meet
                    exact ⟨_, _, ep1, a1, n1, k1, a2, n2, k2, vs1, ss1, re, a3, n3, k3, wl, code, _, rfl, rfl, rfl, hn1, hn2, hz1, hz2, hwl, H12⟩
            · go_simp
              refine hK _ _ ?_
              clear hK K
              have X2 := hidS (X1.out.alloc (rbD 0 (.slice none 0 0)))
              clear X1
              generalize x1.alloc (.cells #[.int .i64 0, .slice none 0 0] 29) = x2 at X2 ⊢
              generalize x1.heap.size = p5 at X2 ⊢
              refine wpAny_ready (rs := [0, 9]) (by kernel_rfl) (by simp) ?_
              refine AllReady.cons rfl (fun K hK => ?_) (AllReady.cons rfl (fun K hK => ?_) AllReady.nil)
              · obtain ⟨⟨o0, o1, o2⟩, o3, o4, o5⟩ := box3 (X2.out.at fun _ H => H.box (w3.heap.size, svb ep (.slice ax nx cx) (.slice ay ny cy)) (by simp))
                go_simp
                refine hK _ _ ?_
                clear hK K o0 o1 o2 o3 o4 o5
                refine wpAny_ready (rs := [3, 9]) (by kernel_rfl) (by simp) ?_
                refine AllReady.cons rfl (fun K hK => ?_) (AllReady.cons rfl (fun K hK => ?_) AllReady.nil)
                · go_simp
                  refine (specDone_any ep k0 m0 (show Ints bx (.slice ax nx cx) vs x2 from X2.out.at fun _ H => H.row (fI bx (.slice ax nx cx) vs) (by simp)) (show Seats by' (.slice ay ny cy) ss x2 from X2.out.at fun _ H => H.row (fS by' (.slice ay ny cy) ss) (by simp))).mono ?_
                  rintro e x3 ⟨ep1, Xn1, Yn1, vs1, ss1, re, v1, wl, u1, ks1, code, rfl, hz1, hi1, hs1, hz2, hw1, hwl, hz3, hz4, hb1, hz5⟩
                  have X3 := hidS (X2.out.map fun _ H => H.adds hb1 [fI x2.heap.size Xn1 vs1, fS x2.heap.size Yn1 ss1, fW x2.heap.size v1 wl] (rows3 hi1 hs1 hw1).1 (new_three _ _ _ _ _ _ _) (rows3 hi1 hs1 hw1).2)
                  obtain ⟨a1, n1, k1, rfl, hn1⟩ := iformL hi1
                  obtain ⟨a2, n2, k2, rfl, hn2⟩ := sformL hs1
                  obtain ⟨a3, n3, k3, rfl⟩ := wformL hw1
                  clear hz3 hz4 hz5 hi1 hs1 hw1 hb1 X2
                  refine hK _ _ ?_
                  clear hK K
                  refine wpAny_take (i := 4) (v := .tuple #[svv ep1 (.slice a1 n1 k1) (.slice a2 n2 k2), rvD re (.slice a3 n3 k3), u1, .int .i64 code]) rfl (by kernel_rfl) (by kernel_rfl) (by kernel_rfl) (fun _ _ _ h => h) (Or.inl ⟨by rfl, fun w => by go_simp⟩) ?_
                  refine wpAny_take (i := 5) (v := svv ep1 (.slice a1 n1 k1) (.slice a2 n2 k2)) rfl (by kernel_rfl) (by kernel_rfl) (by kernel_rfl) (fun _ _ _ h => h) (Or.inl ⟨by rfl, fun w => by go_simp⟩) ?_
                  refine wpAny_take (i := 6) (v := rvD re (.slice a3 n3 k3)) rfl (by kernel_rfl) (by kernel_rfl) (by kernel_rfl) (fun _ _ _ h => h) (Or.inl ⟨by rfl, fun w => by go_simp⟩) ?_
                  refine wpAny_take (i := 7) (v := u1) rfl (by kernel_rfl) (by kernel_rfl) (by kernel_rfl) (fun _ _ _ h => h) (Or.inl ⟨by rfl, fun w => by go_simp⟩) ?_
                  refine wpAny_take (i := 8) (v := .int .i64 code) rfl (by kernel_rfl) (by kernel_rfl) (by kernel_rfl) (fun _ _ _ h => h) (Or.inl ⟨by rfl, fun w => by go_simp⟩) ?_
                  refine wpAny_ready (rs := [9]) (by kernel_rfl) (by simp) ?_
                  refine AllReady.cons rfl (fun K hK => ?_) AllReady.nil
                  · go_simp
                    refine hK _ _ ?_
                    clear hK K
                    have X4 := hidS (X3.out.alloc (svb 0 (.slice none 0 0) (.slice none 0 0)))
                    clear X3
                    generalize x3.alloc (.cells #[.int .i64 0, .slice none 0 0, .slice none 0 0] 43) = x4 at X4 ⊢
                    generalize x3.heap.size = p4 at X4 ⊢
                    obtain ⟨⟨t0, t1, t2⟩, t3, t4, t5⟩ := box3 X4.out.b0
                    have H11 := hidS (X4.out.map fun _ H => ((H.s300 (.int .i64 ep1)).s301 (.slice a1 n1 k1)).s302 (.slice a2 n2 k2))
                    refine wpAny_ready (rs := [11]) (by kernel_rfl) (by simp) ?_
                    refine AllReady.cons rfl (fun K hK => ?_) AllReady.nil
                    go_simp
                    refine hK _ _ ?_
                    clear hK K
                    clear t0 t1 t2 t3 t4 t5
                    generalize ((x4.setCell ⟨p4, 0, none⟩ (.int .i64 ep1)).setCell ⟨p4, 1, none⟩ (.slice a1 n1 k1)).setCell ⟨p4, 2, none⟩ (.slice a2 n2 k2) = y1 at H11 ⊢
                    obtain ⟨⟨t0, t1⟩, t3, t4⟩ := box2K H11.out.b1
                    have H12 := hidS (H11.out.map fun _ H => (H.s210 (.int .i64 re)).s211 (.slice a3 n3 k3))
                    clear H11
                    refine wpAny_ready (rs := [12]) (by kernel_rfl) (by simp) ?_
                    refine AllReady.cons rfl (fun K hK => ?_) AllReady.nil
                    go_simp
                    refine hK _ _ ?_
                    clear hK K
                    clear t0 t1 t3 t4
                    generalize (y1.setCell ⟨p5, 0, none⟩ (.int .i64 re)).setCell ⟨p5, 1, none⟩ (.slice a3 n3 k3) = y2 at H12 ⊢
                    refine wpAny_ready (rs := [13]) (by kernel_rfl) (by simp) ?_
                    refine AllReady.cons rfl (fun K hK => ?_) AllReady.nil
                    go_simp
                    refine hK _ _ ?_
                    clear hK K
                    refine wpAny_ready (rs := [14]) (by kernel_rfl) (by simp) ?_
                    refine AllReady.cons rfl (fun K hK => ?_) AllReady.nil
                    go_simp
                    refine hK _ _ ?_
                    clear hK K
                    refine wpAny_done (by kernel_rfl) ?_ _
                    go_wp2_with fail
                    go_meet
                    exact ⟨_, _, ep1, a1, n1, k1, a2, n2, k2, vs1, ss1, re, a3, n3, k3, wl, code, _, rfl, rfl, rfl, hn1, hn2, hz1, hz2, hwl, H12⟩
                · go_simp
                  refine hK _ _ ?_
                  clear hK K
                  have X3 := hidS (X2.out.alloc (svb 0 (.slice none 0 0) (.slice none 0 0)))
                  clear X2
                  generalize x2.alloc (.cells #[.int .i64 0, .slice none 0 0, .slice none 0 0] 43) = x3 at X3 ⊢
                  generalize x2.heap.size = p4 at X3 ⊢
                  refine wpAny_ready (rs := [3]) (by kernel_rfl) (by simp) ?_
                  refine AllReady.cons rfl (fun K hK => ?_) AllReady.nil
                  · go_simp
                    refine (specDone_any ep k0 m0 (show Ints bx (.slice ax nx cx) vs x3 from X3.out.at fun _ H => H.row (fI bx (.slice ax nx cx) vs) (by simp)) (show Seats by' (.slice ay ny cy) ss x3 from X3.out.at fun _ H => H.row (fS by' (.slice ay ny cy) ss) (by simp))).mono ?_
                    rintro e x4 ⟨ep1, Xn1, Yn1, vs1, ss1, re, v1, wl, u1, ks1, code, rfl, hz1, hi1, hs1, hz2, hw1, hwl, hz3, hz4, hb1, hz5⟩
                    have X4 := hidS (X3.out.map fun _ H => H.adds hb1 [fI x3.heap.size Xn1 vs1, fS x3.heap.size Yn1 ss1, fW x3.heap.size v1 wl] (rows3 hi1 hs1 hw1).1 (new_three _ _ _ _ _ _ _) (rows3 hi1 hs1 hw1).2)
                    obtain ⟨a1, n1, k1, rfl, hn1⟩ := iformL hi1
                    obtain ⟨a2, n2, k2, rfl, hn2⟩ := sformL hs1
                    obtain ⟨a3, n3, k3, rfl⟩ := wformL hw1
                    clear hz3 hz4 hz5 hi1 hs1 hw1 hb1 X3
                    refine hK _ _ ?_
                    clear hK K
                    refine wpAny_take (i := 4) (v := .tuple #[svv ep1 (.slice a1 n1 k1) (.slice a2 n2 k2), rvD re (.slice a3 n3 k3), u1, .int .i64 code]) rfl (by kernel_rfl) (by kernel_rfl) (by kernel_rfl) (fun _ _ _ h => h) (Or.inl ⟨by rfl, fun w => by go_simp⟩) ?_
                    refine wpAny_take (i := 5) (v := svv ep1 (.slice a1 n1 k1) (.slice a2 n2 k2)) rfl (by kernel_rfl) (by kernel_rfl) (by kernel_rfl) (fun _ _ _ h => h) (Or.inl ⟨by rfl, fun w => by go_simp⟩) ?_
                    refine wpAny_take (i := 6) (v := rvD re (.slice a3 n3 k3)) rfl (by kernel_rfl) (by kernel_rfl) (by kernel_rfl) (fun _ _ _ h => h) (Or.inl ⟨by rfl, fun w => by go_simp⟩) ?_
                    refine wpAny_take (i := 7) (v := u1) rfl (by kernel_rfl) (by kernel_rfl) (by kernel_rfl) (fun _ _ _ h => h) (Or.inl ⟨by rfl, fun w => by go_simp⟩) ?_
                    refine wpAny_take (i := 8) (v := .int .i64 code) rfl (by kernel_rfl) (by kernel_rfl) (by kernel_rfl) (fun _ _ _ h => h) (Or.inl ⟨by rfl, fun w => by go_simp⟩) ?_
                    obtain ⟨⟨t0, t1, t2⟩, t3, t4, t5⟩ := box3 X4.out.b0
                    have H11 := hidS (X4.out.map fun _ H => ((H.s300 (.int .i64 ep1)).s301 (.slice a1 n1 k1)).s302 (.slice a2 n2 k2))
                    refine wpAny_ready (rs := [11]) (by kernel_rfl) (by simp) ?_
                    refine AllReady.cons rfl (fun K hK => ?_) AllReady.nil
                    go_simp
                    refine hK _ _ ?_
                    clear hK K
                    clear t0 t1 t2 t3 t4 t5
                    generalize ((x4.setCell ⟨p4, 0, none⟩ (.int .i64 ep1)).setCell ⟨p4, 1, none⟩ (.slice a1 n1 k1)).setCell ⟨p4, 2, none⟩ (.slice a2 n2 k2) = y1 at H11 ⊢
                    obtain ⟨⟨t0, t1⟩, t3, t4⟩ := box2K H11.out.b1
                    have H12 := hidS (H11.out.map fun _ H => (H.s210 (.int .i64 re)).s211 (.slice a3 n3 k3))
                    clear H11
                    refine wpAny_ready (rs := [12]) (by kernel_rfl) (by simp) ?_
                    refine AllReady.cons rfl (fun K hK => ?_) AllReady.nil
                    go_simp
                    refine hK _ _ ?_
                    clear hK K
                    clear t0 t1 t3 t4
                    generalize (y1.setCell ⟨p5, 0, none⟩ (.int .i64 re)).setCell ⟨p5, 1, none⟩ (.slice a3 n3 k3) = y2 at H12 ⊢
                    refine wpAny_ready (rs := [13]) (by kernel_rfl) (by simp) ?_
                    refine AllReady.cons rfl (fun K hK => ?_) AllReady.nil
                    go_simp
                    refine hK _ _ ?_
                    clear hK K
                    refine wpAny_ready (rs := [14]) (by kernel_rfl) (by simp) ?_
                    refine AllReady.cons rfl (fun K hK => ?_) AllReady.nil
                    go_simp
                    refine hK _ _ ?_
                    clear hK K
                    refine wpAny_done (by kernel_rfl) ?_ _
                    go_wp2_with fail
                    go_meet
                    exact ⟨_, _, ep1, a1, n1, k1, a2, n2, k2, vs1, ss1, re, a3, n3, k3, wl, code, _, rfl, rfl, rfl, hn1, hn2, hz1, hz2, hwl, H12⟩
              · go_simp
                refine hK _ _ ?_
                clear hK K
                have X3 := hidS (X2.out.alloc (svb 0 (.slice none 0 0) (.slice none 0 0)))
                clear X2
                generalize x2.alloc (.cells #[.int .i64 0, .slice none 0 0, .slice none 0 0] 43) = x3 at X3 ⊢
                generalize x2.heap.size = p4 at X3 ⊢
                refine wpAny_ready (rs := [0]) (by kernel_rfl) (by simp) ?_
                refine AllReady.cons rfl (fun K hK => ?_) AllReady.nil
                · obtain ⟨⟨o0, o1, o2⟩, o3, o4, o5⟩ := box3 (X3.out.at fun _ H => H.box (w3.heap.size, svb ep (.slice ax nx cx) (.slice ay ny cy)) (by simp))
                  go_simp
                  refine hK _ _ ?_
                  clear hK K o0 o1 o2 o3 o4 o5
                  refine wpAny_ready (rs := [3]) (by kernel_rfl) (by simp) ?_
                  refine AllReady.cons rfl (fun K hK => ?_) AllReady.nil
                  · go_simp
                    refine (specDone_any ep k0 m0 (show Ints bx (.slice ax nx cx) vs x3 from X3.out.at fun _ H => H.row (fI bx (.slice ax nx cx) vs) (by simp)) (show Seats by' (.slice ay ny cy) ss x3 from X3.out.at fun _ H => H.row (fS by' (.slice ay ny cy) ss) (by simp))).mono ?_
                    rintro e x4 ⟨ep1, Xn1, Yn1, vs1, ss1, re, v1, wl, u1, ks1, code, rfl, hz1, hi1, hs1, hz2, hw1, hwl, hz3, hz4, hb1, hz5⟩
                    have X4 := hidS (X3.out.map fun _ H => H.adds hb1 [fI x3.heap.size Xn1 vs1, fS x3.heap.size Yn1 ss1, fW x3.heap.size v1 wl] (rows3 hi1 hs1 hw1).1 (new_three _ _ _ _ _ _ _) (rows3 hi1 hs1 hw1).2)
                    obtain ⟨a1, n1, k1, rfl, hn1⟩ := iformL hi1
                    obtain ⟨a2, n2, k2, rfl, hn2⟩ := sformL hs1
                    obtain ⟨a3, n3, k3, rfl⟩ := wformL hw1
                    clear hz3 hz4 hz5 hi1 hs1 hw1 hb1 X3
                    refine hK _ _ ?_
                    clear hK K
                    refine wpAny_take (i := 4) (v := .tuple #[svv ep1 (.slice a1 n1 k1) (.slice a2 n2 k2), rvD re (.slice a3 n3 k3), u1, .int .i64 code]) rfl (by kernel_rfl) (by kernel_rfl) (by kernel_rfl) (fun _ _ _ h => h) (Or.inl ⟨by rfl, fun w => by go_simp⟩) ?_
                    refine wpAny_take (i := 5) (v := svv ep1 (.slice a1 n1 k1) (.slice a2 n2 k2)) rfl (by kernel_rfl) (by kernel_rfl) (by kernel_rfl) (fun _ _ _ h => h) (Or.inl ⟨by rfl, fun w => by go_simp⟩) ?_
                    refine wpAny_take (i := 6) (v := rvD re (.slice a3 n3 k3)) rfl (by kernel_rfl) (by kernel_rfl) (by kernel_rfl) (fun _ _ _ h => h) (Or.inl ⟨by rfl, fun w => by go_simp⟩) ?_
                    refine wpAny_take (i := 7) (v := u1) rfl (by kernel_rfl) (by kernel_rfl) (by kernel_rfl) (fun _ _ _ h => h) (Or.inl ⟨by rfl, fun w => by go_simp⟩) ?_
                    refine wpAny_take (i := 8) (v := .int .i64 code) rfl (by kernel_rfl) (by kernel_rfl) (by kernel_rfl) (fun _ _ _ h => h) (Or.inl ⟨by rfl, fun w => by go_simp⟩) ?_
                    obtain ⟨⟨t0, t1, t2⟩, t3, t4, t5⟩ := box3 X4.out.b0
                    have H11 := hidS (X4.out.map fun _ H => ((H.s300 (.int .i64 ep1)).s301 (.slice a1 n1 k1)).s302 (.slice a2 n2 k2))
                    refine wpAny_ready (rs := [11]) (by kernel_rfl) (by simp) ?_
                    refine AllReady.cons rfl (fun K hK => ?_) AllReady.nil
                    go_simp
                    refine hK _ _ ?_
                    clear hK K
                    clear t0 t1 t2 t3 t4 t5
                    generalize ((x4.setCell ⟨p4, 0, none⟩ (.int .i64 ep1)).setCell ⟨p4, 1, none⟩ (.slice a1 n1 k1)).setCell ⟨p4, 2, none⟩ (.slice a2 n2 k2) = y1 at H11 ⊢
                    obtain ⟨⟨t0, t1⟩, t3, t4⟩ := box2K H11.out.b1
                    have H12 := hidS (H11.out.map fun _ H => (H.s210 (.int .i64 re)).s211 (.slice a3 n3 k3))
                    clear H11
                    refine wpAny_ready (rs := [12]) (by kernel_rfl) (by simp) ?_
                    refine AllReady.cons rfl (fun K hK => ?_) AllReady.nil
                    go_simp
                    refine hK _ _ ?_
                    clear hK K
                    clear t0 t1 t3 t4
                    generalize (y1.setCell ⟨p5, 0, none⟩ (.int .i64 re)).setCell ⟨p5, 1, none⟩ (.slice a3 n3 k3) = y2 at H12 ⊢
                    refine wpAny_ready (rs := [13]) (by kernel_rfl) (by simp) ?_
                    refine AllReady.cons rfl (fun K hK => ?_) AllReady.nil
                    go_simp
                    refine hK _ _ ?_
                    clear hK K
                    refine wpAny_ready (rs := [14]) (by kernel_rfl) (by simp) ?_
                    refine AllReady.cons rfl (fun K hK => ?_) AllReady.nil
                    go_simp
                    refine hK _ _ ?_
                    clear hK K
                    refine wpAny_done (by kernel_rfl) ?_ _
                    go_wp2_with fail
                    go_meet
                    exact ⟨_, _, ep1, a1, n1, k1, a2, n2, k2, vs1, ss1, re, a3, n3, k3, wl, code, _, rfl, rfl, rfl, hn1, hn2, hz1, hz2, hwl, H12⟩
          · go_simp
            refine hK _ _ ?_
            clear hK K
            have X1 := hidS (X0.out.alloc (svb 0 (.slice none 0 0) (.slice none 0 0)))
            clear X0
            generalize x0.alloc (.cells #[.int .i64 0, .slice none 0 0, .slice none 0 0] 43) = x1 at X1 ⊢
            generalize x0.heap.size = p4 at X1 ⊢
            refine wpAny_ready (rs := [0, 2, 10]) (by kernel_rfl) (by simp) ?_
            refine AllReady.cons rfl (fun K hK => ?_) (AllReady.cons rfl (fun K hK => ?_) (AllReady.cons rfl (fun K hK => ?_) AllReady.nil))
            · obtain ⟨⟨o0, o1, o2⟩, o3, o4, o5⟩ := box3 (X1.out.at fun _ H => H.box (w3.heap.size, svb ep (.slice ax nx cx) (.slice ay ny cy)) (by simp))
              go_simp
              refine hK _ _ ?_
              clear hK K o0 o1 o2 o3 o4 o5
              refine wpAny_ready (rs := [2, 10]) (by kernel_rfl) (by simp) ?_
              refine AllReady.cons rfl (fun K hK => ?_) (AllReady.cons rfl (fun K hK => ?_) AllReady.nil)
              · go_simp
                refine (drawOp_any B R _ X1.out.rd).mono ?_
                rintro e x2 ⟨k0, m0, rfl, hR0, hg0⟩
                have X2 := hidS (X1.out.read hR0 hg0)
                clear hR0 hg0 X1
                refine hK _ _ ?_
                clear hK K
                refine wpAny_ready (rs := [3, 10]) (by kernel_rfl) (by simp) ?_
                refine AllReady.cons rfl (fun K hK => ?_) (AllReady.cons rfl (fun K hK => ?_) AllReady.nil)
                · go_simp
                  refine (specDone_any ep k0 m0 (show Ints bx (.slice ax nx cx) vs x2 from X2.out.at fun _ H => H.row (fI bx (.slice ax nx cx) vs) (by simp)) (show Seats by' (.slice ay ny cy) ss x2 from X2.out.at fun _ H => H.row (fS by' (.slice ay ny cy) ss) (by simp))).mono ?_
                  rintro e x3 ⟨ep1, Xn1, Yn1, vs1, ss1, re, v1, wl, u1, ks1, code, rfl, hz1, hi1, hs1, hz2, hw1, hwl, hz3, hz4, hb1, hz5⟩
                  have X3 := hidS (X2.out.map fun _ H => H.adds hb1 [fI x2.heap.size Xn1 vs1, fS x2.heap.size Yn1 ss1, fW x2.heap.size v1 wl] (rows3 hi1 hs1 hw1).1 (new_three _ _ _ _ _ _ _) (rows3 hi1 hs1 hw1).2)
                  obtain ⟨a1, n1, k1, rfl, hn1⟩ := iformL hi1
                  obtain ⟨a2, n2, k2, rfl, hn2⟩ := sformL hs1
                  obtain ⟨a3, n3, k3, rfl⟩ := wformL hw1
                  clear hz3 hz4 hz5 hi1 hs1 hw1 hb1 X2
                  refine hK _ _ ?_
                  clear hK K
                  refine wpAny_take (i := 4) (v := .tuple #[svv ep1 (.slice a1 n1 k1) (.slice a2 n2 k2), rvD re (.slice a3 n3 k3), u1, .int .i64 code]) rfl (by kernel_rfl) (by kernel_rfl) (by kernel_rfl) (fun _ _ _ h => h) (Or.inl ⟨by rfl, fun w => by go_simp⟩) ?_
                  refine wpAny_take (i := 5) (v := svv ep1 (.slice a1 n1 k1) (.slice a2 n2 k2)) rfl (by kernel_rfl) (by kernel_rfl) (by kernel_rfl) (fun _ _ _ h => h) (Or.inl ⟨by rfl, fun w => by go_simp⟩) ?_
                  refine wpAny_take (i := 6) (v := rvD re (.slice a3 n3 k3)) rfl (by kernel_rfl) (by kernel_rfl) (by kernel_rfl) (fun _ _ _ h => h) (Or.inl ⟨by rfl, fun w => by go_simp⟩) ?_
                  refine wpAny_take (i := 7) (v := u1) rfl (by kernel_rfl) (by kernel_rfl) (by kernel_rfl) (fun _ _ _ h => h) (Or.inl ⟨by rfl, fun w => by go_simp⟩) ?_
                  refine wpAny_take (i := 8) (v := .int .i64 code) rfl (by kernel_rfl) (by kernel_rfl) (by kernel_rfl) (fun _ _ _ h => h) (Or.inl ⟨by rfl, fun w => by go_simp⟩) ?_
                  refine wpAny_ready (rs := [10]) (by kernel_rfl) (by simp) ?_
                  refine AllReady.cons rfl (fun K hK => ?_) AllReady.nil
                  · go_simp
                    refine hK _ _ ?_
                    clear hK K
                    have X4 := hidS (X3.out.alloc (rbD 0 (.slice none 0 0)))
                    clear X3
                    generalize x3.alloc (.cells #[.int .i64 0, .slice none 0 0] 29) = x4 at X4 ⊢
                    generalize x3.heap.size = p5 at X4 ⊢
                    have X4 := hidS (X4.out.permB (List.Perm.swap _ _ _))
                    obtain ⟨⟨t0, t1, t2⟩, t3, t4, t5⟩ := box3 X4.out.b0
                    have H11 := hidS (X4.out.map fun _ H => ((H.s300 (.int .i64 ep1)).s301 (.slice a1 n1 k1)).s302 (.slice a2 n2 k2))
                    refine wpAny_ready (rs := [11]) (by kernel_rfl) (by simp) ?_
                    refine AllReady.cons rfl (fun K hK => ?_) AllReady.nil
                    go_simp
                    refine hK _ _ ?_
                    clear hK K
                    clear t0 t1 t2 t3 t4 t5
                    generalize ((x4.setCell ⟨p4, 0, none⟩ (.int .i64 ep1)).setCell ⟨p4, 1, none⟩ (.slice a1 n1 k1)).setCell ⟨p4, 2, none⟩ (.slice a2 n2 k2) = y1 at H11 ⊢
                    obtain ⟨⟨t0, t1⟩, t3, t4⟩ := box2K H11.out.b1
                    have H12 := hidS (H11.out.map fun _ H => (H.s210 (.int .i64 re)).s211 (.slice a3 n3 k3))
                    clear H11
                    refine wpAny_ready (rs := [12]) (by kernel_rfl) (by simp) ?_
                    refine AllReady.cons rfl (fun K hK => ?_) AllReady.nil
                    go_simp
                    refine hK _ _ ?_
                    clear hK K
                    clear t0 t1 t3 t4
                    generalize (y1.setCell ⟨p5, 0, none⟩ (.int .i64 re)).setCell ⟨p5, 1, none⟩ (.slice a3 n3 k3) = y2 at H12 ⊢
                    refine wpAny_ready (rs := [13]) (by kernel_rfl) (by simp) ?_
                    refine AllReady.cons rfl (fun K hK => ?_) AllReady.nil
                    go_simp
                    refine hK _ _ ?_
                    clear hK K
                    refine wpAny_ready (rs := [14]) (by kernel_rfl) (by simp) ?_
                    refine AllReady.cons rfl (fun K hK => ?_) AllReady.nil
                    go_simp
                    refine hK _ _ ?_
                    clear hK K
                    refine wpAny_done (by kernel_rfl) ?_ _
                    go_wp2_with fail
                    go_meet
                    exact ⟨_, _, ep1, a1, n1, k1, a2, n2, k2, vs1, ss1, re, a3, n3, k3, wl, code, _, rfl, rfl, rfl, hn1, hn2, hz1, hz2, hwl, H12⟩
                · go_simp
                  refine hK _ _ ?_
                  clear hK K
                  have X3 := hidS (X2.out.alloc (rbD 0 (.slice none 0 0)))
                  clear X2
                  generalize x2.alloc (.cells #[.int .i64 0, .slice none 0 0] 29) = x3 at X3 ⊢
                  generalize x2.heap.size = p5 at X3 ⊢
                  refine wpAny_ready (rs := [3]) (by kernel_rfl) (by simp) ?_
                  refine AllReady.cons rfl (fun K hK => ?_) AllReady.nil
                  · go_simp
                    refine (specDone_any ep k0 m0 (show Ints bx (.slice ax nx cx) vs x3 from X3.out.at fun _ H => H.row (fI bx (.slice ax nx cx) vs) (by simp)) (show Seats by' (.slice ay ny cy) ss x3 from X3.out.at fun _ H => H.row (fS by' (.slice ay ny cy) ss) (by simp))).mono ?_
                    rintro e x4 ⟨ep1, Xn1, Yn1, vs1, ss1, re, v1, wl, u1, ks1, code, rfl, hz1, hi1, hs1, hz2, hw1, hwl, hz3, hz4, hb1, hz5⟩
                    have X4 := hidS (X3.out.map fun _ H => H.adds hb1 [fI x3.heap.size Xn1 vs1, fS x3.heap.size Yn1 ss1, fW x3.heap.size v1 wl] (rows3 hi1 hs1 hw1).1 (new_three _ _ _ _ _ _ _) (rows3 hi1 hs1 hw1).2)
                    obtain ⟨a1, n1, k1, rfl, hn1⟩ := iformL hi1
                    obtain ⟨a2, n2, k2, rfl, hn2⟩ := sformL hs1
                    obtain ⟨a3, n3, k3, rfl⟩ := wformL hw1
                    clear hz3 hz4 hz5 hi1 hs1 hw1 hb1 X3
                    refine hK _ _ ?_
                    clear hK K
                    refine wpAny_take (i := 4) (v := .tuple #[svv ep1 (.slice a1 n1 k1) (.slice a2 n2 k2), rvD re (.slice a3 n3 k3), u1, .int .i64 code]) rfl (by kernel_rfl) (by kernel_rfl) (by kernel_rfl) (fun _ _ _ h => h) (Or.inl ⟨by rfl, fun w => by go_simp⟩) ?_
                    refine wpAny_take (i := 5) (v := svv ep1 (.slice a1 n1 k1) (.slice a2 n2 k2)) rfl (by kernel_rfl) (by kernel_rfl) (by kernel_rfl) (fun _ _ _ h => h) (Or.inl ⟨by rfl, fun w => by go_simp⟩) ?_
                    refine wpAny_take (i := 6) (v := rvD re (.slice a3 n3 k3)) rfl (by kernel_rfl) (by kernel_rfl) (by kernel_rfl) (fun _ _ _ h => h) (Or.inl ⟨by rfl, fun w => by go_simp⟩) ?_
                    refine wpAny_take (i := 7) (v := u1) rfl (by kernel_rfl) (by kernel_rfl) (by kernel_rfl) (fun _ _ _ h => h) (Or.inl ⟨by rfl, fun w => by go_simp⟩) ?_
                    refine wpAny_take (i := 8) (v := .int .i64 code) rfl (by kernel_rfl) (by kernel_rfl) (by kernel_rfl) (fun _ _ _ h => h) (Or.inl ⟨by rfl, fun w => by go_simp⟩) ?_
                    have X4 := hidS (X4.out.permB (List.Perm.swap _ _ _))
                    obtain ⟨⟨t0, t1, t2⟩, t3, t4, t5⟩ := box3 X4.out.b0
                    have H11 := hidS (X4.out.map fun _ H => ((H.s300 (.int .i64 ep1)).s301 (.slice a1 n1 k1)).s302 (.slice a2 n2 k2))
                    refine wpAny_ready (rs := [11]) (by kernel_rfl) (by simp) ?_
                    refine AllReady.cons rfl (fun K hK => ?_) AllReady.nil
                    go_simp
                    refine hK _ _ ?_
                    clear hK K
                    clear t0 t1 t2 t3 t4 t5
                    generalize ((x4.setCell ⟨p4, 0, none⟩ (.int .i64 ep1)).setCell ⟨p4, 1, none⟩ (.slice a1 n1 k1)).setCell ⟨p4, 2, none⟩ (.slice a2 n2 k2) = y1 at H11 ⊢
                    obtain ⟨⟨t0, t1⟩, t3, t4⟩ := box2K H11.out.b1
                    have H12 := hidS (H11.out.map fun _ H => (H.s210 (.int .i64 re)).s211 (.slice a3 n3 k3))
                    clear H11
                    refine wpAny_ready (rs := [12]) (by kernel_rfl) (by simp) ?_
                    refine AllReady.cons rfl (fun K hK => ?_) AllReady.nil
                    go_simp
                    refine hK _ _ ?_
                    clear hK K
                    clear t0 t1 t3 t4
                    generalize (y1.setCell ⟨p5, 0, none⟩ (.int .i64 re)).setCell ⟨p5, 1, none⟩ (.slice a3 n3 k3) = y2 at H12 ⊢
                    refine wpAny_ready (rs := [13]) (by kernel_rfl) (by simp) ?_
                    refine AllReady.cons rfl (fun K hK => ?_) AllReady.nil
                    go_simp
                    refine hK _ _ ?_
                    clear hK K
                    refine wpAny_ready (rs := [14]) (by kernel_rfl) (by simp) ?_
                    refine AllReady.cons rfl (fun K hK => ?_) AllReady.nil
                    go_simp
                    refine hK _ _ ?_
                    clear hK K
                    refine wpAny_done (by kernel_rfl) ?_ _
                    go_wp2_with fail
                    go_meet
                    exact ⟨_, _, ep1, a1, n1, k1, a2, n2, k2, vs1, ss1, re, a3, n3, k3, wl, code, _, rfl, rfl, rfl, hn1, hn2, hz1, hz2, hwl, H12⟩
              · go_simp
                refine hK _ _ ?_
                clear hK K
                have X2 := hidS (X1.out.alloc (rbD 0 (.slice none 0 0)))
                clear X1
                generalize x1.alloc (.cells #[.int .i64 0, .slice none 0 0] 29) = x2 at X2 ⊢
                generalize x1.heap.size = p5 at X2 ⊢
                refine wpAny_ready (rs := [2]) (by kernel_rfl) (by simp) ?_
                refine AllReady.cons rfl (fun K hK => ?_) AllReady.nil
                · go_simp
                  refine (drawOp_any B R _ X2.out.rd).mono ?_
                  rintro e x3 ⟨k0, m0, rfl, hR0, hg0⟩
                  have X3 := hidS (X2.out.read hR0 hg0)
                  clear hR0 hg0 X2
                  refine hK _ _ ?_
                  clear hK K
                  refine wpAny_ready (rs := [3]) (by kernel_rfl) (by simp) ?_
                  refine AllReady.cons rfl (fun K hK => ?_) AllReady.nil
                  · go_simp
                    refine (specDone_any ep k0 m0 (show Ints bx (.slice ax nx cx) vs x3 from X3.out.at fun _ H => H.row (fI bx (.slice ax nx cx) vs) (by simp)) (show Seats by' (.slice ay ny cy) ss x3 from X3.out.at fun _ H => H.row (fS by' (.slice ay ny cy) ss) (by simp))).mono ?_
                    rintro e x4 ⟨ep1, Xn1, Yn1, vs1, ss1, re, v1, wl, u1, ks1, code, rfl, hz1, hi1, hs1, hz2, hw1, hwl, hz3, hz4, hb1, hz5⟩
                    have X4 := hidS (X3.out.map fun _ H => H.adds hb1 [fI x3.heap.size Xn1 vs1, fS x3.heap.size Yn1 ss1, fW x3.heap.size v1 wl] (rows3 hi1 hs1 hw1).1 (new_three _ _ _ _ _ _ _) (rows3 hi1 hs1 hw1).2)
                    obtain ⟨a1, n1, k1, rfl, hn1⟩ := iformL hi1
                    obtain ⟨a2, n2, k2, rfl, hn2⟩ := sformL hs1
                    obtain ⟨a3, n3, k3, rfl⟩ := wformL hw1
                    clear hz3 hz4 hz5 hi1 hs1 hw1 hb1 X3
                    refine hK _ _ ?_
                    clear hK K
                    refine wpAny_take (i := 4) (v := .tuple #[svv ep1 (.slice a1 n1 k1) (.slice a2 n2 k2), rvD re (.slice a3 n3 k3), u1, .int .i64 code]) rfl (by kernel_rfl) (by kernel_rfl) (by kernel_rfl) (fun _ _ _ h => h) (Or.inl ⟨by rfl, fun w => by go_simp⟩) ?_
                    refine wpAny_take (i := 5) (v := svv ep1 (.slice a1 n1 k1) (.slice a2 n2 k2)) rfl (by kernel_rfl) (by kernel_rfl) (by kernel_rfl) (fun _ _ _ h => h) (Or.inl ⟨by rfl, fun w => by go_simp⟩) ?_
                    refine wpAny_take (i := 6) (v := rvD re (.slice a3 n3 k3)) rfl (by kernel_rfl) (by kernel_rfl) (by kernel_rfl) (fun _ _ _ h => h) (Or.inl ⟨by rfl, fun w => by go_simp⟩) ?_
                    refine wpAny_take (i := 7) (v := u1) rfl (by kernel_rfl) (by kernel_rfl) (by kernel_rfl) (fun _ _ _ h => h) (Or.inl ⟨by rfl, fun w => by go_simp⟩) ?_
                    refine wpAny_take (i := 8) (v := .int .i64 code) rfl (by kernel_rfl) (by kernel_rfl) (by kernel_rfl) (fun _ _ _ h => h) (Or.inl ⟨by rfl, fun w => by go_simp⟩) ?_
                    have X4 := hidS (X4.out.permB (List.Perm.swap _ _ _))
                    obtain ⟨⟨t0, t1, t2⟩, t3, t4, t5⟩ := box3 X4.out.b0
                    have H11 := hidS (X4.out.map fun _ H => ((H.s300 (.int .i64 ep1)).s301 (.slice a1 n1 k1)).s302 (.slice a2 n2 k2))
                    refine wpAny_ready (rs := [11]) (by kernel_rfl) (by simp) ?_
                    refine AllReady.cons rfl (fun K hK => ?_) AllReady.nil
                    go_simp
                    refine hK _ _ ?_
                    clear hK K
                    clear t0 t1 t2 t3 t4 t5
                    generalize ((x4.setCell ⟨p4, 0, none⟩ (.int .i64 ep1)).setCell ⟨p4, 1, none⟩ (.slice a1 n1 k1)).setCell ⟨p4, 2, none⟩ (.slice a2 n2 k2) = y1 at H11 ⊢
                    obtain ⟨⟨t0, t1⟩, t3, t4⟩ := box2K H11.out.b1
                    have H12 := hidS (H11.out.map fun _ H => (H.s210 (.int .i64 re)).s211 (.slice a3 n3 k3))
                    clear H11
                    refine wpAny_ready (rs := [12]) (by kernel_rfl) (by simp) ?_
                    refine AllReady.cons rfl (fun K hK => ?_) AllReady.nil
                    go_simp
                    refine hK _ _ ?_
                    clear hK K
                    clear t0 t1 t3 t4
                    generalize (y1.setCell ⟨p5, 0, none⟩ (.int .i64 re)).setCell ⟨p5, 1, none⟩ (.slice a3 n3 k3) = y2 at H12 ⊢
                    refine wpAny_ready (rs := [13]) (by kernel_rfl) (by simp) ?_
                    refine AllReady.cons rfl (fun K hK => ?_) AllReady.nil
                    go_simp
                    refine hK _ _ ?_
                    clear hK K
                    refine wpAny_ready (rs := [14]) (by kernel_rfl) (by simp) ?_
                    refine AllReady.cons rfl (fun K hK => ?_) AllReady.nil
                    go_simp
                    refine hK _ _ ?_
                    clear hK K
                    refine wpAny_done (by kernel_rfl) ?_ _
                    go_wp2_with fail
                    go_meet
                    exact ⟨_, _, ep1, a1, n1, k1, a2, n2, k2, vs1, ss1, re, a3, n3, k3, wl, code, _, rfl, rfl, rfl, hn1, hn2, hz1, hz2, hwl, H12⟩
            · go_simp
              refine (drawOp_any B R _ X1.out.rd).mono ?_
              rintro e x2 ⟨k0, m0, rfl, hR0, hg0⟩
              have X2 := hidS (X1.out.read hR0 hg0)
              clear hR0 hg0 X1
              refine hK _ _ ?_
              clear hK K
              refine wpAny_ready (rs := [0, 10]) (by kernel_rfl) (by simp) ?_
              refine AllReady.cons rfl (fun K hK => ?_) (AllReady.cons rfl (fun K hK => ?_) AllReady.nil)
              · obtain ⟨⟨o0, o1, o2⟩, o3, o4, o5⟩ := box3 (X2.out.at fun _ H => H.box (w3.heap.size, svb ep (.slice ax nx cx) (.slice ay ny cy)) (by simp))
                go_simp
                refine hK _ _ ?_
                clear hK K o0 o1 o2 o3 o4 o5
                refine wpAny_ready (rs := [3, 10]) (by kernel_rfl) (by simp) ?_
                refine AllReady.cons rfl (fun K hK => ?_) (AllReady.cons rfl (fun K hK => ?_) AllReady.nil)
                · go_simp
                  refine (specDone_any ep k0 m0 (show Ints bx (.slice ax nx cx) vs x2 from X2.out.at fun _ H => H.row (fI bx (.slice ax nx cx) vs) (by simp)) (show Seats by' (.slice ay ny cy) ss x2 from X2.out.at fun _ H => H.row (fS by' (.slice ay ny cy) ss) (by simp))).mono ?_
                  rintro e x3 ⟨ep1, Xn1, Yn1, vs1, ss1, re, v1, wl, u1, ks1, code, rfl, hz1, hi1, hs1, hz2, hw1, hwl, hz3, hz4, hb1, hz5⟩
                  have X3 := hidS (X2.out.map fun _ H => H.adds hb1 [fI x2.heap.size Xn1 vs1, fS x2.heap.size Yn1 ss1, fW x2.heap.size v1 wl] (rows3 hi1 hs1 hw1).1 (new_three _ _ _ _ _ _ _) (rows3 hi1 hs1 hw1).2)
                  obtain ⟨a1, n1, k1, rfl, hn1⟩ := iformL hi1
                  obtain ⟨a2, n2, k2, rfl, hn2⟩ := sformL hs1
                  obtain ⟨a3, n3, k3, rfl⟩ := wformL hw1
                  clear hz3 hz4 hz5 hi1 hs1 hw1 hb1 X2
                  refine hK _ _ ?_
                  clear hK K
                  refine wpAny_take (i := 4) (v := .tuple #[svv ep1 (.slice a1 n1 k1) (.slice a2 n2 k2), rvD re (.slice a3 n3 k3), u1, .int .i64 code]) rfl (by kernel_rfl) (by kernel_rfl) (by kernel_rfl) (fun _ _ _ h => h) (Or.inl ⟨by rfl, fun w => by go_simp⟩) ?_
                  refine wpAny_take (i := 5) (v := svv ep1 (.slice a1 n1 k1) (.slice a2 n2 k2)) rfl (by kernel_rfl) (by kernel_rfl) (by kernel_rfl) (fun _ _ _ h => h) (Or.inl ⟨by rfl, fun w => by go_simp⟩) ?_
                  refine wpAny_take (i := 6) (v := rvD re (.slice a3 n3 k3)) rfl (by kernel_rfl) (by kernel_rfl) (by kernel_rfl) (fun _ _ _ h => h) (Or.inl ⟨by rfl, fun w => by go_simp⟩) ?_
                  refine wpAny_take (i := 7) (v := u1) rfl (by kernel_rfl) (by kernel_rfl) (by kernel_rfl) (fun _ _ _ h => h) (Or.inl ⟨by rfl, fun w => by go_simp⟩) ?_
                  refine wpAny_take (i := 8) (v := .int .i64 code) rfl (by kernel_rfl) (by kernel_rfl) (by kernel_rfl) (fun _ _ _ h => h) (Or.inl ⟨by rfl, fun w => by go_simp⟩) ?_
                  refine wpAny_ready (rs := [10]) (by kernel_rfl) (by simp) ?_
                  refine AllReady.cons rfl (fun K hK => ?_) AllReady.nil
                  · go_simp
                    refine hK _ _ ?_
                    clear hK K
                    have X4 := hidS (X3.out.alloc (rbD 0 (.slice none 0 0)))
                    clear X3
                    generalize x3.alloc (.cells #[.int .i64 0, .slice none 0 0] 29) = x4 at X4 ⊢
                    generalize x3.heap.size = p5 at X4 ⊢
                    have X4 := hidS (X4.out.permB (List.Perm.swap _ _ _))
                    obtain ⟨⟨t0, t1, t2⟩, t3, t4, t5⟩ := box3 X4.out.b0
                    have H11 := hidS (X4.out.map fun _ H => ((H.s300 (.int .i64 ep1)).s301 (.slice a1 n1 k1)).s302 (.slice a2 n2 k2))
                    refine wpAny_ready (rs := [11]) (by kernel_rfl) (by simp) ?_
                    refine AllReady.cons rfl (fun K hK => ?_) AllReady.nil
                    go_simp
                    refine hK _ _ ?_
                    clear hK K
                    clear t0 t1 t2 t3 t4 t5
                    generalize ((x4.setCell ⟨p4, 0, none⟩ (.int .i64 ep1)).setCell ⟨p4, 1, none⟩ (.slice a1 n1 k1)).setCell ⟨p4, 2, none⟩ (.slice a2 n2 k2) = y1 at H11 ⊢
                    obtain ⟨⟨t0, t1⟩, t3, t4⟩ := box2K H11.out.b1
                    have H12 := hidS (H11.out.map fun _ H => (H.s210 (.int .i64 re)).s211 (.slice a3 n3 k3))
                    clear H11
                    refine wpAny_ready (rs := [12]) (by kernel_rfl) (by simp) ?_
                    refine AllReady.cons rfl (fun K hK => ?_) AllReady.nil
                    go_simp
                    refine hK _ _ ?_
                    clear hK K
                    clear t0 t1 t3 t4
                    generalize (y1.setCell ⟨p5, 0, none⟩ (.int .i64 re)).setCell ⟨p5, 1, none⟩ (.slice a3 n3 k3) = y2 at H12 ⊢
                    refine wpAny_ready (rs := [13]) (by kernel_rfl) (by simp) ?_
                    refine AllReady.cons rfl (fun K hK => ?_) AllReady.nil
                    go_simp
                    refine hK _ _ ?_
                    clear hK K
                    refine wpAny_ready (rs := [14]) (by kernel_rfl) (by simp) ?_
                    refine AllReady.cons rfl (fun K hK => ?_) AllReady.nil
                    go_simp
                    refine hK _ _ ?_
                    clear hK K
                    refine wpAny_done (by kernel_rfl) ?_ _
                    go_wp2_with fail
                    go_meet
                    exact ⟨_, _, ep1, a1, n1, k1, a2, n2, k2, vs1, ss1, re, a3, n3, k3, wl, code, _, rfl, rfl, rfl, hn1, hn2, hz1, hz2, hwl, H12⟩
                · go_simp
                  refine hK _ _ ?_
                  clear hK K
                  have X3 := hidS (X2.out.alloc (rbD 0 (.slice none 0 0)))
                  clear X2
                  generalize x2.alloc (.cells #[.int .i64 0, .slice none 0 0] 29) = x3 at X3 ⊢
                  generalize x2.heap.size = p5 at X3 ⊢
                  refine wpAny_ready (rs := [3]) (by kernel_rfl) (by simp) ?_
                  refine AllReady.cons rfl (fun K hK => ?_) AllReady.nil
                  · go_simp
                    refine (specDone_any ep k0 m0 (show Ints bx (.slice ax nx cx) vs x3 from X3.out.at fun _ H => H.row (fI bx (.slice ax nx cx) vs) (by simp)) (show Seats by' (.slice ay ny cy) ss x3 from X3.out.at fun _ H => H.row (fS by' (.slice ay ny cy) ss) (by simp))).mono ?_
                    rintro e x4 ⟨ep1, Xn1, Yn1, vs1, ss1, re, v1, wl, u1, ks1, code, rfl, hz1, hi1, hs1, hz2, hw1, hwl, hz3, hz4, hb1, hz5⟩
                    have X4 := hidS (X3.out.map fun _ H => H.adds hb1 [fI x3.heap.size Xn1 vs1, fS x3.heap.size Yn1 ss1, fW x3.heap.size v1 wl] (rows3 hi1 hs1 hw1).1 (new_three _ _ _ _ _ _ _) (rows3 hi1 hs1 hw1).2)
                    obtain ⟨a1, n1, k1, rfl, hn1⟩ := iformL hi1
                    obtain ⟨a2, n2, k2, rfl, hn2⟩ := sformL hs1
                    obtain ⟨a3, n3, k3, rfl⟩ := wformL hw1
                    clear hz3 hz4 hz5 hi1 hs1 hw1 hb1 X3
                    refine hK _ _ ?_
                    clear hK K
                    refine wpAny_take (i := 4) (v := .tuple #[svv ep1 (.slice a1 n1 k1) (.slice a2 n2 k2), rvD re (.slice a3 n3 k3), u1, .int .i64 code]) rfl (by kernel_rfl) (by kernel_rfl) (by kernel_rfl) (fun _ _ _ h => h) (Or.inl ⟨by rfl, fun w => by go_simp⟩) ?_
                    refine wpAny_take (i := 5) (v := svv ep1 (.slice a1 n1 k1) (.slice a2 n2 k2)) rfl (by kernel_rfl) (by kernel_rfl) (by kernel_rfl) (fun _ _ _ h => h) (Or.inl ⟨by rfl, fun w => by go_simp⟩) ?_
                    refine wpAny_take (i := 6) (v := rvD re (.slice a3 n3 k3)) rfl (by kernel_rfl) (by kernel_rfl) (by kernel_rfl) (fun _ _ _ h => h) (Or.inl ⟨by rfl, fun w => by go_simp⟩) ?_
                    refine wpAny_take (i := 7) (v := u1) rfl (by kernel_rfl) (by kernel_rfl) (by kernel_rfl) (fun _ _ _ h => h) (Or.inl ⟨by rfl, fun w => by go_simp⟩) ?_
                    refine wpAny_take (i := 8) (v := .int .i64 code) rfl (by kernel_rfl) (by kernel_rfl) (by kernel_rfl) (fun _ _ _ h => h) (Or.inl ⟨by rfl, fun w => by go_simp⟩) ?_
                    have X4 := hidS (X4.out.permB (List.Perm.swap _ _ _))
                    obtain ⟨⟨t0, t1, t2⟩, t3, t4, t5⟩ := box3 X4.out.b0
                    have H11 := hidS (X4.out.map fun _ H => ((H.s300 (.int .i64 ep1)).s301 (.slice a1 n1 k1)).s302 (.slice a2 n2 k2))
                    refine wpAny_ready (rs := [11]) (by kernel_rfl) (by simp) ?_
                    refine AllReady.cons rfl (fun K hK => ?_) AllReady.nil
                    go_simp
                    refine hK _ _ ?_
                    clear hK K
                    clear t0 t1 t2 t3 t4 t5
                    generalize ((x4.setCell ⟨p4, 0, none⟩ (.int .i64 ep1)).setCell ⟨p4, 1, none⟩ (.slice a1 n1 k1)).setCell ⟨p4, 2, none⟩ (.slice a2 n2 k2) = y1 at H11 ⊢
                    obtain ⟨⟨t0, t1⟩, t3, t4⟩ := box2K H11.out.b1
                    have H12 := hidS (H11.out.map fun _ H => (H.s210 (.int .i64 re)).s211 (.slice a3 n3 k3))
                    clear H11
                    refine wpAny_ready (rs := [12]) (by kernel_rfl) (by simp) ?_
                    refine AllReady.cons rfl (fun K hK => ?_) AllReady.nil
                    go_simp
                    refine hK _ _ ?_
                    clear hK K
                    clear t0 t1 t3 t4
                    generalize (y1.setCell ⟨p5, 0, none⟩ (.int .i64 re)).setCell ⟨p5, 1, none⟩ (.slice a3 n3 k3) = y2 at H12 ⊢
                    refine wpAny_ready (rs := [13]) (by kernel_rfl) (by simp) ?_
                    refine AllReady.cons rfl (fun K hK => ?_) AllReady.nil
                    go_simp
                    refine hK _ _ ?_
                    clear hK K
                    refine wpAny_ready (rs := [14]) (by kernel_rfl) (by simp) ?_
                    refine AllReady.cons rfl (fun K hK => ?_) AllReady.nil
                    go_simp
                    refine hK _ _ ?_
                    clear hK K
                    refine wpAny_done (by kernel_rfl) ?_ _
                    go_wp2_with fail
                    go_meet
                    exact ⟨_, _, ep1, a1, n1, k1, a2, n2, k2, vs1, ss1, re, a3, n3, k3, wl, code, _, rfl, rfl, rfl, hn1, hn2, hz1, hz2, hwl, H12⟩
              · go_simp
                refine hK _ _ ?_
                clear hK K
                have X3 := hidS (X2.out.alloc (rbD 0 (.slice none 0 0)))
                clear X2
                generalize x2.alloc (.cells #[.int .i64 0, .slice none 0 0] 29) = x3 at X3 ⊢
                generalize x2.heap.size = p5 at X3 ⊢
                refine wpAny_ready (rs := [0]) (by kernel_rfl) (by simp) ?_
                refine AllReady.cons rfl (fun K hK => ?_) AllReady.nil
                · obtain ⟨⟨o0, o1, o2⟩, o3, o4, o5⟩ := box3 (X3.out.at fun _ H => H.box (w3.heap.size, svb ep (.slice ax nx cx) (.slice ay ny cy)) (by simp))
                  go_simp
                  refine hK _ _ ?_
                  clear hK K o0 o1 o2 o3 o4 o5
                  refine wpAny_ready (rs := [3]) (by kernel_rfl) (by simp) ?_
                  refine AllReady.cons rfl (fun K hK => ?_) AllReady.nil
                  · go_simp
                    refine (specDone_any ep k0 m0 (show Ints bx (.slice ax nx cx) vs x3 from X3.out.at fun _ H => H.row (fI bx (.slice ax nx cx) vs) (by simp)) (show Seats by' (.slice ay ny cy) ss x3 from X3.out.at fun _ H => H.row (fS by' (.slice ay ny cy) ss) (by simp))).mono ?_
                    rintro e x4 ⟨ep1, Xn1, Yn1, vs1, ss1, re, v1, wl, u1, ks1, code, rfl, hz1, hi1, hs1, hz2, hw1, hwl, hz3, hz4, hb1, hz5⟩
                    have X4 := hidS (X3.out.map fun _ H => H.adds hb1 [fI x3.heap.size Xn1 vs1, fS x3.heap.size Yn1 ss1, fW x3.heap.size v1 wl] (rows3 hi1 hs1 hw1).1 (new_three _ _ _ _ _ _ _) (rows3 hi1 hs1 hw1).2)
                    obtain ⟨a1, n1, k1, rfl, hn1⟩ := iformL hi1
                    obtain ⟨a2, n2, k2, rfl, hn2⟩ := sformL hs1
                    obtain ⟨a3, n3, k3, rfl⟩ := wformL hw1
                    clear hz3 hz4 hz5 hi1 hs1 hw1 hb1 X3
                    refine hK _ _ ?_
                    clear hK K
                    refine wpAny_take (i := 4) (v := .tuple #[svv ep1 (.slice a1 n1 k1) (.slice a2 n2 k2), rvD re (.slice a3 n3 k3), u1, .int .i64 code]) rfl (by kernel_rfl) (by kernel_rfl) (by kernel_rfl) (fun _ _ _ h => h) (Or.inl ⟨by rfl, fun w => by go_simp⟩) ?_
                    refine wpAny_take (i := 5) (v := svv ep1 (.slice a1 n1 k1) (.slice a2 n2 k2)) rfl (by kernel_rfl) (by kernel_rfl) (by kernel_rfl) (fun _ _ _ h => h) (Or.inl ⟨by rfl, fun w => by go_simp⟩) ?_
                    refine wpAny_take (i := 6) (v := rvD re (.slice a3 n3 k3)) rfl (by kernel_rfl) (by kernel_rfl) (by kernel_rfl) (fun _ _ _ h => h) (Or.inl ⟨by rfl, fun w => by go_simp⟩) ?_
                    refine wpAny_take (i := 7) (v := u1) rfl (by kernel_rfl) (by kernel_rfl) (by kernel_rfl) (fun _ _ _ h => h) (Or.inl ⟨by rfl, fun w => by go_simp⟩) ?_
                    refine wpAny_take (i := 8) (v := .int .i64 code) rfl (by kernel_rfl) (by kernel_rfl) (by kernel_rfl) (fun _ _ _ h => h) (Or.inl ⟨by rfl, fun w => by go_simp⟩) ?_
                    have X4 := hidS (X4.out.permB (List.Perm.swap _ _ _))
                    obtain ⟨⟨t0, t1, t2⟩, t3, t4, t5⟩ := box3 X4.out.b0
                    have H11 := hidS (X4.out.map fun _ H => ((H.s300 (.int .i64 ep1)).s301 (.slice a1 n1 k1)).s302 (.slice a2 n2 k2))
                    refine wpAny_ready (rs := [11]) (by kernel_rfl) (by simp) ?_
                    refine AllReady.cons rfl (fun K hK => ?_) AllReady.nil
                    go_simp
                    refine hK _ _ ?_
                    clear hK K
                    clear t0 t1 t2 t3 t4 t5
                    generalize ((x4.setCell ⟨p4, 0, none⟩ (.int .i64 ep1)).setCell ⟨p4, 1, none⟩ (.slice a1 n1 k1)).setCell ⟨p4, 2, none⟩ (.slice a2 n2 k2) = y1 at H11 ⊢
                    obtain ⟨⟨t0, t1⟩, t3, t4⟩ := box2K H11.out.b1
                    have H12 := hidS (H11.out.map fun _ H => (H.s210 (.int .i64 re)).s211 (.slice a3 n3 k3))
                    clear H11
                    refine wpAny_ready (rs := [12]) (by kernel_rfl) (by simp) ?_
                    refine AllReady.cons rfl (fun K hK => ?_) AllReady.nil
                    go_simp
                    refine hK _ _ ?_
                    clear hK K
                    clear t0 t1 t3 t4
                    generalize (y1.setCell ⟨p5, 0, none⟩ (.int .i64 re)).setCell ⟨p5, 1, none⟩ (.slice a3 n3 k3) = y2 at H12 ⊢
                    refine wpAny_ready (rs := [13]) (by kernel_rfl) (by simp) ?_
                    refine AllReady.cons rfl (fun K hK => ?_) AllReady.nil
                    go_simp
                    refine hK _ _ ?_
                    clear hK K
                    refine wpAny_ready (rs := [14]) (by kernel_rfl) (by simp) ?_
                    refine AllReady.cons rfl (fun K hK => ?_) AllReady.nil
                    go_simp
                    refine hK _ _ ?_
                    clear hK K
                    refine wpAny_done (by kernel_rfl) ?_ _
                    go_wp2_with fail
                    go_meet
                    exact ⟨_, _, ep1, a1, n1, k1, a2, n2, k2, vs1, ss1, re, a3, n3, k3, wl, code, _, rfl, rfl, rfl, hn1, hn2, hz1, hz2, hwl, H12⟩
            · go_simp
              refine hK _ _ ?_
              clear hK K
              have X2 := hidS (X1.out.alloc (rbD 0 (.slice none 0 0)))
              clear X1
              generalize x1.alloc (.cells #[.int .i64 0, .slice none 0 0] 29) = x2 at X2 ⊢
              generalize x1.heap.size = p5 at X2 ⊢
              refine wpAny_ready (rs := [0, 2]) (by kernel_rfl) (by simp) ?_
              refine AllReady.cons rfl (fun K hK => ?_) (AllReady.cons rfl (fun K hK => ?_) AllReady.nil)
              · obtain ⟨⟨o0, o1, o2⟩, o3, o4, o5⟩ := box3 (X2.out.at fun _ H => H.box (w3.heap.size, svb ep (.slice ax nx cx) (.slice ay ny cy)) (by simp))
                go_simp
                refine hK _ _ ?_
                clear hK K o0 o1 o2 o3 o4 o5
                refine wpAny_ready (rs := [2]) (by kernel_rfl) (by simp) ?_
                refine AllReady.cons rfl (fun K hK => ?_) AllReady.nil
                · go_simp
                  refine (drawOp_any B R _ X2.out.rd).mono ?_
                  rintro e x3 ⟨k0, m0, rfl, hR0, hg0⟩
                  have X3 := hidS (X2.out.read hR0 hg0)
                  clear hR0 hg0 X2
                  refine hK _ _ ?_
                  clear hK K
                  refine wpAny_ready (rs := [3]) (by kernel_rfl) (by simp) ?_
                  refine AllReady.cons rfl (fun K hK => ?_) AllReady.nil
                  · go_simp
                    refine (specDone_any ep k0 m0 (show Ints bx (.slice ax nx cx) vs x3 from X3.out.at fun _ H => H.row (fI bx (.slice ax nx cx) vs) (by simp)) (show Seats by' (.slice ay ny cy) ss x3 from X3.out.at fun _ H => H.row (fS by' (.slice ay ny cy) ss) (by simp))).mono ?_
                    rintro e x4 ⟨ep1, Xn1, Yn1, vs1, ss1, re, v1, wl, u1, ks1, code, rfl, hz1, hi1, hs1, hz2, hw1, hwl, hz3, hz4, hb1, hz5⟩
                    have X4 := hidS (X3.out.map fun _ H => H.adds hb1 [fI x3.heap.size Xn1 vs1, fS x3.heap.size Yn1 ss1, fW x3.heap.size v1 wl] (rows3 hi1 hs1 hw1).1 (new_three _ _ _ _ _ _ _) (rows3 hi1 hs1 hw1).2)
                    obtain ⟨a1, n1, k1, rfl, hn1⟩ := iformL hi1
                    obtain ⟨a2, n2, k2, rfl, hn2⟩ := sformL hs1
                    obtain ⟨a3, n3, k3, rfl⟩ := wformL hw1
                    clear hz3 hz4 hz5 hi1 hs1 hw1 hb1 X3
                    refine hK _ _ ?_
                    clear hK K
                    refine wpAny_take (i := 4) (v := .tuple #[svv ep1 (.slice a1 n1 k1) (.slice a2 n2 k2), rvD re (.slice a3 n3 k3), u1, .int .i64 code]) rfl (by kernel_rfl) (by kernel_rfl) (by kernel_rfl) (fun _ _ _ h => h) (Or.inl ⟨by rfl, fun w => by go_simp⟩) ?_
                    refine wpAny_take (i := 5) (v := svv ep1 (.slice a1 n1 k1) (.slice a2 n2 k2)) rfl (by kernel_rfl) (by kernel_rfl) (by kernel_rfl) (fun _ _ _ h => h) (Or.inl ⟨by rfl, fun w => by go_simp⟩) ?_
                    refine wpAny_take (i := 6) (v := rvD re (.slice a3 n3 k3)) rfl (by kernel_rfl) (by kernel_rfl) (by kernel_rfl) (fun _ _ _ h => h) (Or.inl ⟨by rfl, fun w => by go_simp⟩) ?_
                    refine wpAny_take (i := 7) (v := u1) rfl (by kernel_rfl) (by kernel_rfl) (by kernel_rfl) (fun _ _ _ h => h) (Or.inl ⟨by rfl, fun w => by go_simp⟩) ?_
                    refine wpAny_take (i := 8) (v := .int .i64 code) rfl (by kernel_rfl) (by kernel_rfl) (by kernel_rfl) (fun _ _ _ h => h) (Or.inl ⟨by rfl, fun w => by go_simp⟩) ?_
                    have X4 := hidS (X4.out.permB (List.Perm.swap _ _ _))
                    obtain ⟨⟨t0, t1, t2⟩, t3, t4, t5⟩ := box3 X4.out.b0
                    have H11 := hidS (X4.out.map fun _ H => ((H.s300 (.int .i64 ep1)).s301 (.slice a1 n1 k1)).s302 (.slice a2 n2 k2))
                    refine wpAny_ready (rs := [11]) (by kernel_rfl) (by simp) ?_
                    refine AllReady.cons rfl (fun K hK => ?_) AllReady.nil
                    go_simp
                    refine hK _ _ ?_
                    clear hK K
                    clear t0 t1 t2 t3 t4 t5
                    generalize ((x4.setCell ⟨p4, 0, none⟩ (.int .i64 ep1)).setCell ⟨p4, 1, none⟩ (.slice a1 n1 k1)).setCell ⟨p4, 2, none⟩ (.slice a2 n2 k2) = y1 at H11 ⊢
                    obtain ⟨⟨t0, t1⟩, t3, t4⟩ := box2K H11.out.b1
                    have H12 := hidS (H11.out.map fun _ H => (H.s210 (.int .i64 re)).s211 (.slice a3 n3 k3))
                    clear H11
                    refine wpAny_ready (rs := [12]) (by kernel_rfl) (by simp) ?_
                    refine AllReady.cons rfl (fun K hK => ?_) AllReady.nil
                    go_simp
                    refine hK _ _ ?_
                    clear hK K
                    clear t0 t1 t3 t4
                    generalize (y1.setCell ⟨p5, 0, none⟩ (.int .i64 re)).setCell ⟨p5, 1, none⟩ (.slice a3 n3 k3) = y2 at H12 ⊢
                    refine wpAny_ready (rs := [13]) (by kernel_rfl) (by simp) ?_
                    refine AllReady.cons rfl (fun K hK => ?_) AllReady.nil
                    go_simp
                    refine hK _ _ ?_
                    clear hK K
                    refine wpAny_ready (rs := [14]) (by kernel_rfl) (by simp) ?_
                    refine AllReady.cons rfl (fun K hK => ?_) AllReady.nil
                    go_simp
                    refine hK _ _ ?_
                    clear hK K
                    refine wpAny_done (by kernel_rfl) ?_ _
                    go_wp2_with fail
                    go_meet
                    exact ⟨_, _, ep1, a1, n1, k1, a2, n2, k2, vs1, ss1, re, a3, n3, k3, wl, code, _, rfl, rfl, rfl, hn1, hn2, hz1, hz2, hwl, H12⟩
              · go_simp
                refine (drawOp_any B R _ X2.out.rd).mono ?_
                rintro e x3 ⟨k0, m0, rfl, hR0, hg0⟩
                have X3 := hidS (X2.out.read hR0 hg0)
                clear hR0 hg0 X2
                refine hK _ _ ?_
                clear hK K
                refine wpAny_ready (rs := [0]) (by kernel_rfl) (by simp) ?_
                refine AllReady.cons rfl (fun K hK => ?_) AllReady.nil
                · obtain ⟨⟨o0, o1, o2⟩, o3, o4, o5⟩ := box3 (X3.out.at fun _ H => H.box (w3.heap.size, svb ep (.slice ax nx cx) (.slice ay ny cy)) (by simp))
                  go_simp
                  refine hK _ _ ?_
                  clear hK K o0 o1 o2 o3 o4 o5
                  refine wpAny_ready (rs := [3]) (by kernel_rfl) (by simp) ?_
                  refine AllReady.cons rfl (fun K hK => ?_) AllReady.nil
                  · go_simp
                    refine (specDone_any ep k0 m0 (show Ints bx (.slice ax nx cx) vs x3 from X3.out.at fun _ H => H.row (fI bx (.slice ax nx cx) vs) (by simp)) (show Seats by' (.slice ay ny cy) ss x3 from X3.out.at fun _ H => H.row (fS by' (.slice ay ny cy) ss) (by simp))).mono ?_
                    rintro e x4 ⟨ep1, Xn1, Yn1, vs1, ss1, re, v1, wl, u1, ks1, code, rfl, hz1, hi1, hs1, hz2, hw1, hwl, hz3, hz4, hb1, hz5⟩
                    have X4 := hidS (X3.out.map fun _ H => H.adds hb1 [fI x3.heap.size Xn1 vs1, fS x3.heap.size Yn1 ss1, fW x3.heap.size v1 wl] (rows3 hi1 hs1 hw1).1 (new_three _ _ _ _ _ _ _) (rows3 hi1 hs1 hw1).2)
                    obtain ⟨a1, n1, k1, rfl, hn1⟩ := iformL hi1
                    obtain ⟨a2, n2, k2, rfl, hn2⟩ := sformL hs1
                    obtain ⟨a3, n3, k3, rfl⟩ := wformL hw1
                    clear hz3 hz4 hz5 hi1 hs1 hw1 hb1 X3
                    refine hK _ _ ?_
                    clear hK K
                    refine wpAny_take (i := 4) (v := .tuple #[svv ep1 (.slice a1 n1 k1) (.slice a2 n2 k2), rvD re (.slice a3 n3 k3), u1, .int .i64 code]) rfl (by kernel_rfl) (by kernel_rfl) (by kernel_rfl) (fun _ _ _ h => h) (Or.inl ⟨by rfl, fun w => by go_simp⟩) ?_
                    refine wpAny_take (i := 5) (v := svv ep1 (.slice a1 n1 k1) (.slice a2 n2 k2)) rfl (by kernel_rfl) (by kernel_rfl) (by kernel_rfl) (fun _ _ _ h => h) (Or.inl ⟨by rfl, fun w => by go_simp⟩) ?_
                    refine wpAny_take (i := 6) (v := rvD re (.slice a3 n3 k3)) rfl (by kernel_rfl) (by kernel_rfl) (by kernel_rfl) (fun _ _ _ h => h) (Or.inl ⟨by rfl, fun w => by go_simp⟩) ?_
                    refine wpAny_take (i := 7) (v := u1) rfl (by kernel_rfl) (by kernel_rfl) (by kernel_rfl) (fun _ _ _ h => h) (Or.inl ⟨by rfl, fun w => by go_simp⟩) ?_
                    refine wpAny_take (i := 8) (v := .int .i64 code) rfl (by kernel_rfl) (by kernel_rfl) (by kernel_rfl) (fun _ _ _ h => h) (Or.inl ⟨by rfl, fun w => by go_simp⟩) ?_
                    have X4 := hidS (X4.out.permB (List.Perm.swap _ _ _))
                    obtain ⟨⟨t0, t1, t2⟩, t3, t4, t5⟩ := box3 X4.out.b0
                    have H11 := hidS (X4.out.map fun _ H => ((H.s300 (.int .i64 ep1)).s301 (.slice a1 n1 k1)).s302 (.slice a2 n2 k2))
                    refine wpAny_ready (rs := [11]) (by kernel_rfl) (by simp) ?_
                    refine AllReady.cons rfl (fun K hK => ?_) AllReady.nil
                    go_simp
                    refine hK _ _ ?_
                    clear hK K
                    clear t0 t1 t2 t3 t4 t5
                    generalize ((x4.setCell ⟨p4, 0, none⟩ (.int .i64 ep1)).setCell ⟨p4, 1, none⟩ (.slice a1 n1 k1)).setCell ⟨p4, 2, none⟩ (.slice a2 n2 k2) = y1 at H11 ⊢
                    obtain ⟨⟨t0, t1⟩, t3, t4⟩ := box2K H11.out.b1
                    have H12 := hidS (H11.out.map fun _ H => (H.s210 (.int .i64 re)).s211 (.slice a3 n3 k3))
                    clear H11
                    refine wpAny_ready (rs := [12]) (by kernel_rfl) (by simp) ?_
                    refine AllReady.cons rfl (fun K hK => ?_) AllReady.nil
                    go_simp
                    refine hK _ _ ?_
                    clear hK K
                    clear t0 t1 t3 t4
                    generalize (y1.setCell ⟨p5, 0, none⟩ (.int .i64 re)).setCell ⟨p5, 1, none⟩ (.slice a3 n3 k3) = y2 at H12 ⊢
                    refine wpAny_ready (rs := [13]) (by kernel_rfl) (by simp) ?_
                    refine AllReady.cons rfl (fun K hK => ?_) AllReady.nil
                    go_simp
                    refine hK _ _ ?_
                    clear hK K
                    refine wpAny_ready (rs := [14]) (by kernel_rfl) (by simp) ?_
                    refine AllReady.cons rfl (fun K hK => ?_) AllReady.nil
                    go_simp
                    refine hK _ _ ?_
                    clear hK K
                    refine wpAny_done (by kernel_rfl) ?_ _
                    go_wp2_with fail
                    go_meet
                    exact ⟨_, _, ep1, a1, n1, k1, a2, n2, k2, vs1, ss1, re, a3, n3, k3, wl, code, _, rfl, rfl, rfl, hn1, hn2, hz1, hz2, hwl, H12⟩
          · go_simp
            refine hK _ _ ?_
            clear hK K
            have X1 := hidS (X0.out.alloc (rbD 0 (.slice none 0 0)))
            clear X0
            generalize x0.alloc (.cells #[.int .i64 0, .slice none 0 0] 29) = x1 at X1 ⊢
            generalize x0.heap.size = p5 at X1 ⊢
            refine wpAny_ready (rs := [0, 2, 9]) (by kernel_rfl) (by simp) ?_
            refine AllReady.cons rfl (fun K hK => ?_) (AllReady.cons rfl (fun K hK => ?_) (AllReady.cons rfl (fun K hK => ?_) AllReady.nil))
            · obtain ⟨⟨o0, o1, o2⟩, o3, o4, o5⟩ := box3 (X1.out.at fun _ H => H.box (w3.heap.size, svb ep (.slice ax nx cx) (.slice ay ny cy)) (by simp))
              go_simp
              refine hK _ _ ?_
              clear hK K o0 o1 o2 o3 o4 o5
              refine wpAny_ready (rs := [2, 9]) (by kernel_rfl) (by simp) ?_
              refine AllReady.cons rfl (fun K hK => ?_) (AllReady.cons rfl (fun K hK => ?_) AllReady.nil)
              · go_simp
                refine (drawOp_any B R _ X1.out.rd).mono ?_
                rintro e x2 ⟨k0, m0, rfl, hR0, hg0⟩
                have X2 := hidS (X1.out.read hR0 hg0)
                clear hR0 hg0 X1
                refine hK _ _ ?_
                clear hK K
                refine wpAny_ready (rs := [3, 9]) (by kernel_rfl) (by simp) ?_
                refine AllReady.cons rfl (fun K hK => ?_) (AllReady.cons rfl (fun K hK => ?_) AllReady.nil)
                · go_simp
                  refine (specDone_any ep k0 m0 (show Ints bx (.slice ax nx cx) vs x2 from X2.out.at fun _ H => H.row (fI bx (.slice ax nx cx) vs) (by simp)) (show Seats by' (.slice ay ny cy) ss x2 from X2.out.at fun _ H => H.row (fS by' (.slice ay ny cy) ss) (by simp))).mono ?_
                  rintro e x3 ⟨ep1, Xn1, Yn1, vs1, ss1, re, v1, wl, u1, ks1, code, rfl, hz1, hi1, hs1, hz2, hw1, hwl, hz3, hz4, hb1, hz5⟩
                  have X3 := hidS (X2.out.map fun _ H => H.adds hb1 [fI x2.heap.size Xn1 vs1, fS x2.heap.size Yn1 ss1, fW x2.heap.size v1 wl] (rows3 hi1 hs1 hw1).1 (new_three _ _ _ _ _ _ _) (rows3 hi1 hs1 hw1).2)
                  obtain ⟨a1, n1, k1, rfl, hn1⟩ := iformL hi1
                  obtain ⟨a2, n2, k2, rfl, hn2⟩ := sformL hs1
                  obtain ⟨a3, n3, k3, rfl⟩ := wformL hw1
                  clear hz3 hz4 hz5 hi1 hs1 hw1 hb1 X2
                  refine hK _ _ ?_
                  clear hK K
                  refine wpAny_take (i := 4) (v := .tuple #[svv ep1 (.slice a1 n1 k1) (.slice a2 n2 k2), rvD re (.slice a3 n3 k3), u1, .int .i64 code]) rfl (by kernel_rfl) (by kernel_rfl) (by kernel_rfl) (fun _ _ _ h => h) (Or.inl ⟨by rfl, fun w => by go_simp⟩) ?_
                  refine wpAny_take (i := 5) (v := svv ep1 (.slice a1 n1 k1) (.slice a2 n2 k2)) rfl (by kernel_rfl) (by kernel_rfl) (by kernel_rfl) (fun _ _ _ h => h) (Or.inl ⟨by rfl, fun w => by go_simp⟩) ?_
                  refine wpAny_take (i := 6) (v := rvD re (.slice a3 n3 k3)) rfl (by kernel_rfl) (by kernel_rfl) (by kernel_rfl) (fun _ _ _ h => h) (Or.inl ⟨by rfl, fun w => by go_simp⟩) ?_
                  refine wpAny_take (i := 7) (v := u1) rfl (by kernel_rfl) (by kernel_rfl) (by kernel_rfl) (fun _ _ _ h => h) (Or.inl ⟨by rfl, fun w => by go_simp⟩) ?_
                  refine wpAny_take (i := 8) (v := .int .i64 code) rfl (by kernel_rfl) (by kernel_rfl) (by kernel_rfl) (fun _ _ _ h => h) (Or.inl ⟨by rfl, fun w => by go_simp⟩) ?_
                  refine wpAny_ready (rs := [9]) (by kernel_rfl) (by simp) ?_
                  refine AllReady.cons rfl (fun K hK => ?_) AllReady.nil
                  · go_simp
                    refine hK _ _ ?_
                    clear hK K
                    have X4 := hidS (X3.out.alloc (svb 0 (.slice none 0 0) (.slice none 0 0)))
                    clear X3
                    generalize x3.alloc (.cells #[.int .i64 0, .slice none 0 0, .slice none 0 0] 43) = x4 at X4 ⊢
                    generalize x3.heap.size = p4 at X4 ⊢
                    obtain ⟨⟨t0, t1, t2⟩, t3, t4, t5⟩ := box3 X4.out.b0
                    have H11 := hidS (X4.out.map fun _ H => ((H.s300 (.int .i64 ep1)).s301 (.slice a1 n1 k1)).s302 (.slice a2 n2 k2))
                    refine wpAny_ready (rs := [11]) (by kernel_rfl) (by simp) ?_
                    refine AllReady.cons rfl (fun K hK => ?_) AllReady.nil
                    go_simp
                    refine hK _ _ ?_
                    clear hK K
                    clear t0 t1 t2 t3 t4 t5
                    generalize ((x4.setCell ⟨p4, 0, none⟩ (.int .i64 ep1)).setCell ⟨p4, 1, none⟩ (.slice a1 n1 k1)).setCell ⟨p4, 2, none⟩ (.slice a2 n2 k2) = y1 at H11 ⊢
                    obtain ⟨⟨t0, t1⟩, t3, t4⟩ := box2K H11.out.b1
                    have H12 := hidS (H11.out.map fun _ H => (H.s210 (.int .i64 re)).s211 (.slice a3 n3 k3))
                    clear H11
                    refine wpAny_ready (rs := [12]) (by kernel_rfl) (by simp) ?_
                    refine AllReady.cons rfl (fun K hK => ?_) AllReady.nil
                    go_simp
                    refine hK _ _ ?_
                    clear hK K
                    clear t0 t1 t3 t4
                    generalize (y1.setCell ⟨p5, 0, none⟩ (.int .i64 re)).setCell ⟨p5, 1, none⟩ (.slice a3 n3 k3) = y2 at H12 ⊢
                    refine wpAny_ready (rs := [13]) (by kernel_rfl) (by simp) ?_
                    refine AllReady.cons rfl (fun K hK => ?_) AllReady.nil
                    go_simp
                    refine hK _ _ ?_
                    clear hK K
                    refine wpAny_ready (rs := [14]) (by kernel_rfl) (by simp) ?_
                    refine AllReady.cons rfl (fun K hK => ?_) AllReady.nil
                    go_simp
                    refine hK _ _ ?_
                    clear hK K
                    refine wpAny_done (by kernel_rfl) ?_ _
                    go_wp2_with fail
                    go_meet
                    exact ⟨_, _, ep1, a1, n1, k1, a2, n2, k2, vs1, ss1, re, a3, n3, k3, wl, code, _, rfl, rfl, rfl, hn1, hn2, hz1, hz2, hwl, H12⟩
                · go_simp
                  refine hK _ _ ?_
                  clear hK K
                  have X3 := hidS (X2.out.alloc (svb 0 (.slice none 0 0) (.slice none 0 0)))
                  clear X2
                  generalize x2.alloc (.cells #[.int .i64 0, .slice none 0 0, .slice none 0 0] 43) = x3 at X3 ⊢
                  generalize x2.heap.size = p4 at X3 ⊢
                  refine wpAny_ready (rs := [3]) (by kernel_rfl) (by simp) ?_
                  refine AllReady.cons rfl (fun K hK => ?_) AllReady.nil
                  · go_simp
                    refine (specDone_any ep k0 m0 (show Ints bx (.slice ax nx cx) vs x3 from X3.out.at fun _ H => H.row (fI bx (.slice ax nx cx) vs) (by simp)) (show Seats by' (.slice ay ny cy) ss x3 from X3.out.at fun _ H => H.row (fS by' (.slice ay ny cy) ss) (by simp))).mono ?_
                    rintro e x4 ⟨ep1, Xn1, Yn1, vs1, ss1, re, v1, wl, u1, ks1, code, rfl, hz1, hi1, hs1, hz2, hw1, hwl, hz3, hz4, hb1, hz5⟩
                    have X4 := hidS (X3.out.map fun _ H => H.adds hb1 [fI x3.heap.size Xn1 vs1, fS x3.heap.size Yn1 ss1, fW x3.heap.size v1 wl] (rows3 hi1 hs1 hw1).1 (new_three _ _ _ _ _ _ _) (rows3 hi1 hs1 hw1).2)
                    obtain ⟨a1, n1, k1, rfl, hn1⟩ := iformL hi1
                    obtain ⟨a2, n2, k2, rfl, hn2⟩ := sformL hs1
                    obtain ⟨a3, n3, k3, rfl⟩ := wformL hw1
                    clear hz3 hz4 hz5 hi1 hs1 hw1 hb1 X3
                    refine hK _ _ ?_
                    clear hK K
                    refine wpAny_take (i := 4) (v := .tuple #[svv ep1 (.slice a1 n1 k1) (.slice a2 n2 k2), rvD re (.slice a3 n3 k3), u1, .int .i64 code]) rfl (by kernel_rfl) (by kernel_rfl) (by kernel_rfl) (fun _ _ _ h => h) (Or.inl ⟨by rfl, fun w => by go_simp⟩) ?_
                    refine wpAny_take (i := 5) (v := svv ep1 (.slice a1 n1 k1) (.slice a2 n2 k2)) rfl (by kernel_rfl) (by kernel_rfl) (by kernel_rfl) (fun _ _ _ h => h) (Or.inl ⟨by rfl, fun w => by go_simp⟩) ?_
                    refine wpAny_take (i := 6) (v := rvD re (.slice a3 n3 k3)) rfl (by kernel_rfl) (by kernel_rfl) (by kernel_rfl) (fun _ _ _ h => h) (Or.inl ⟨by rfl, fun w => by go_simp⟩) ?_
                    refine wpAny_take (i := 7) (v := u1) rfl (by kernel_rfl) (by kernel_rfl) (by kernel_rfl) (fun _ _ _ h => h) (Or.inl ⟨by rfl, fun w => by go_simp⟩) ?_
                    refine wpAny_take (i := 8) (v := .int .i64 code) rfl (by kernel_rfl) (by kernel_rfl) (by kernel_rfl) (fun _ _ _ h => h) (Or.inl ⟨by rfl, fun w => by go_simp⟩) ?_
                    obtain ⟨⟨t0, t1, t2⟩, t3, t4, t5⟩ := box3 X4.out.b0
                    have H11 := hidS (X4.out.map fun _ H => ((H.s300 (.int .i64 ep1)).s301 (.slice a1 n1 k1)).s302 (.slice a2 n2 k2))
                    refine wpAny_ready (rs := [11]) (by kernel_rfl) (by simp) ?_
                    refine AllReady.cons rfl (fun K hK => ?_) AllReady.nil
                    go_simp
                    refine hK _ _ ?_
                    clear hK K
                    clear t0 t1 t2 t3 t4 t5
                    generalize ((x4.setCell ⟨p4, 0, none⟩ (.int .i64 ep1)).setCell ⟨p4, 1, none⟩ (.slice a1 n1 k1)).setCell ⟨p4, 2, none⟩ (.slice a2 n2 k2) = y1 at H11 ⊢
                    obtain ⟨⟨t0, t1⟩, t3, t4⟩ := box2K H11.out.b1
                    have H12 := hidS (H11.out.map fun _ H => (H.s210 (.int .i64 re)).s211 (.slice a3 n3 k3))
                    clear H11
                    refine wpAny_ready (rs := [12]) (by kernel_rfl) (by simp) ?_
                    refine AllReady.cons rfl (fun K hK => ?_) AllReady.nil
                    go_simp
                    refine hK _ _ ?_
                    clear hK K
                    clear t0 t1 t3 t4
                    generalize (y1.setCell ⟨p5, 0, none⟩ (.int .i64 re)).setCell ⟨p5, 1, none⟩ (.slice a3 n3 k3) = y2 at H12 ⊢
                    refine wpAny_ready (rs := [13]) (by kernel_rfl) (by simp) ?_
                    refine AllReady.cons rfl (fun K hK => ?_) AllReady.nil
                    go_simp
                    refine hK _ _ ?_
                    clear hK K
                    refine wpAny_ready (rs := [14]) (by kernel_rfl) (by simp) ?_
                    refine AllReady.cons rfl (fun K hK => ?_) AllReady.nil
                    go_simp
                    refine hK _ _ ?_
                    clear hK K
                    refine wpAny_done (by kernel_rfl) ?_ _
                    go_wp2_with fail
                    go_meet
                    exact ⟨_, _, ep1, a1, n1, k1, a2, n2, k2, vs1, ss1, re, a3, n3, k3, wl, code, _, rfl, rfl, rfl, hn1, hn2, hz1, hz2, hwl, H12⟩
              · go_simp
                refine hK _ _ ?_
                clear hK K
                have X2 := hidS (X1.out.alloc (svb 0 (.slice none 0 0) (.slice none 0 0)))
                clear X1
                generalize x1.alloc (.cells #[.int .i64 0, .slice none 0 0, .slice none 0 0] 43) = x2 at X2 ⊢
                generalize x1.heap.size = p4 at X2 ⊢
                refine wpAny_ready (rs := [2]) (by kernel_rfl) (by simp) ?_
                refine AllReady.cons rfl (fun K hK => ?_) AllReady.nil
                · go_simp
                  refine (drawOp_any B R _ X2.out.rd).mono ?_
                  rintro e x3 ⟨k0, m0, rfl, hR0, hg0⟩
                  have X3 := hidS (X2.out.read hR0 hg0)
                  clear hR0 hg0 X2
                  refine hK _ _ ?_
                  clear hK K
                  refine wpAny_ready (rs := [3]) (by kernel_rfl) (by simp) ?_
                  refine AllReady.cons rfl (fun K hK => ?_) AllReady.nil
                  · go_simp
                    refine (specDone_any ep k0 m0 (show Ints bx (.slice ax nx cx) vs x3 from X3.out.at fun _ H => H.row (fI bx (.slice ax nx cx) vs) (by simp)) (show Seats by' (.slice ay ny cy) ss x3 from X3.out.at fun _ H => H.row (fS by' (.slice ay ny cy) ss) (by simp))).mono ?_
                    rintro e x4 ⟨ep1, Xn1, Yn1, vs1, ss1, re, v1, wl, u1, ks1, code, rfl, hz1, hi1, hs1, hz2, hw1, hwl, hz3, hz4, hb1, hz5⟩
                    have X4 := hidS (X3.out.map fun _ H => H.adds hb1 [fI x3.heap.size Xn1 vs1, fS x3.heap.size Yn1 ss1, fW x3.heap.size v1 wl] (rows3 hi1 hs1 hw1).1 (new_three _ _ _ _ _ _ _) (rows3 hi1 hs1 hw1).2)
                    obtain ⟨a1, n1, k1, rfl, hn1⟩ := iformL hi1
                    obtain ⟨a2, n2, k2, rfl, hn2⟩ := sformL hs1
                    obtain ⟨a3, n3, k3, rfl⟩ := wformL hw1
                    clear hz3 hz4 hz5 hi1 hs1 hw1 hb1 X3
                    refine hK _ _ ?_
                    clear hK K
                    refine wpAny_take (i := 4) (v := .tuple #[svv ep1 (.slice a1 n1 k1) (.slice a2 n2 k2), rvD re (.slice a3 n3 k3), u1, .int .i64 code]) rfl (by kernel_rfl) (by kernel_rfl) (by kernel_rfl) (fun _ _ _ h => h) (Or.inl ⟨by rfl, fun w => by go_simp⟩) ?_
                    refine wpAny_take (i := 5) (v := svv ep1 (.slice a1 n1 k1) (.slice a2 n2 k2)) rfl (by kernel_rfl) (by kernel_rfl) (by kernel_rfl) (fun _ _ _ h => h) (Or.inl ⟨by rfl, fun w => by go_simp⟩) ?_
                    refine wpAny_take (i := 6) (v := rvD re (.slice a3 n3 k3)) rfl (by kernel_rfl) (by kernel_rfl) (by kernel_rfl) (fun _ _ _ h => h) (Or.inl ⟨by rfl, fun w => by go_simp⟩) ?_
                    refine wpAny_take (i := 7) (v := u1) rfl (by kernel_rfl) (by kernel_rfl) (by kernel_rfl) (fun _ _ _ h => h) (Or.inl ⟨by rfl, fun w => by go_simp⟩) ?_
                    refine wpAny_take (i := 8) (v := .int .i64 code) rfl (by kernel_rfl) (by kernel_rfl) (by kernel_rfl) (fun _ _ _ h => h) (Or.inl ⟨by rfl, fun w => by go_simp⟩) ?_
                    obtain ⟨⟨t0, t1, t2⟩, t3, t4, t5⟩ := box3 X4.out.b0
                    have H11 := hidS (X4.out.map fun _ H => ((H.s300 (.int .i64 ep1)).s301 (.slice a1 n1 k1)).s302 (.slice a2 n2 k2))
                    refine wpAny_ready (rs := [11]) (by kernel_rfl) (by simp) ?_
                    refine AllReady.cons rfl (fun K hK => ?_) AllReady.nil
                    go_simp
                    refine hK _ _ ?_
                    clear hK K
                    clear t0 t1 t2 t3 t4 t5
                    generalize ((x4.setCell ⟨p4, 0, none⟩ (.int .i64 ep1)).setCell ⟨p4, 1, none⟩ (.slice a1 n1 k1)).setCell ⟨p4, 2, none⟩ (.slice a2 n2 k2) = y1 at H11 ⊢
                    obtain ⟨⟨t0, t1⟩, t3, t4⟩ := box2K H11.out.b1
                    have H12 := hidS (H11.out.map fun _ H => (H.s210 (.int .i64 re)).s211 (.slice a3 n3 k3))
                    clear H11
                    refine wpAny_ready (rs := [12]) (by kernel_rfl) (by simp) ?_
                    refine AllReady.cons rfl (fun K hK => ?_) AllReady.nil
                    go_simp
                    refine hK _ _ ?_
                    clear hK K
                    clear t0 t1 t3 t4
                    generalize (y1.setCell ⟨p5, 0, none⟩ (.int .i64 re)).setCell ⟨p5, 1, none⟩ (.slice a3 n3 k3) = y2 at H12 ⊢
                    refine wpAny_ready (rs := [13]) (by kernel_rfl) (by simp) ?_
                    refine AllReady.cons rfl (fun K hK => ?_) AllReady.nil
                    go_simp
                    refine hK _ _ ?_
                    clear hK K
                    refine wpAny_ready (rs := [14]) (by kernel_rfl) (by simp) ?_
                    refine AllReady.cons rfl (fun K hK => ?_) AllReady.nil
                    go_simp
                    refine hK _ _ ?_
                    clear hK K
                    refine wpAny_done (by kernel_rfl) ?_ _
                    go_wp2_with fail
                    go_meet
                    exact ⟨_, _, ep1, a1, n1, k1, a2, n2, k2, vs1, ss1, re, a3, n3, k3, wl, code, _, rfl, rfl, rfl, hn1, hn2, hz1, hz2, hwl, H12⟩
            · go_simp
              refine (drawOp_any B R _ X1.out.rd).mono ?_
              rintro e x2 ⟨k0, m0, rfl, hR0, hg0⟩
              have X2 := hidS (X1.out.read hR0 hg0)
              clear hR0 hg0 X1
              refine hK _ _ ?_
              clear hK K
              refine wpAny_ready (rs := [0, 9]) (by kernel_rfl) (by simp) ?_
              refine AllReady.cons rfl (fun K hK => ?_) (AllReady.cons rfl (fun K hK => ?_) AllReady.nil)
              · obtain ⟨⟨o0, o1, o2⟩, o3, o4, o5⟩ := box3 (X2.out.at fun _ H => H.box (w3.heap.size, svb ep (.slice ax nx cx) (.slice ay ny cy)) (by simp))
                go_simp
                refine hK _ _ ?_
                clear hK K o0 o1 o2 o3 o4 o5
                refine wpAny_ready (rs := [3, 9]) (by kernel_rfl) (by simp) ?_
                refine AllReady.cons rfl (fun K hK => ?_) (AllReady.cons rfl (fun K hK => ?_) AllReady.nil)
                · go_simp
                  refine (specDone_any ep k0 m0 (show Ints bx (.slice ax nx cx) vs x2 from X2.out.at fun _ H => H.row (fI bx (.slice ax nx cx) vs) (by simp)) (show Seats by' (.slice ay ny cy) ss x2 from X2.out.at fun _ H => H.row (fS by' (.slice ay ny cy) ss) (by simp))).mono ?_
                  rintro e x3 ⟨ep1, Xn1, Yn1, vs1, ss1, re, v1, wl, u1, ks1, code, rfl, hz1, hi1, hs1, hz2, hw1, hwl, hz3, hz4, hb1, hz5⟩
                  have X3 := hidS (X2.out.map fun _ H => H.adds hb1 [fI x2.heap.size Xn1 vs1, fS x2.heap.size Yn1 ss1, fW x2.heap.size v1 wl] (rows3 hi1 hs1 hw1).1 (new_three _ _ _ _ _ _ _) (rows3 hi1 hs1 hw1).2)
                  obtain ⟨a1, n1, k1, rfl, hn1⟩ := iformL hi1
                  obtain ⟨a2, n2, k2, rfl, hn2⟩ := sformL hs1
                  obtain ⟨a3, n3, k3, rfl⟩ := wformL hw1
                  clear hz3 hz4 hz5 hi1 hs1 hw1 hb1 X2
                  refine hK _ _ ?_
                  clear hK K
                  refine wpAny_take (i := 4) (v := .tuple #[svv ep1 (.slice a1 n1 k1) (.slice a2 n2 k2), rvD re (.slice a3 n3 k3), u1, .int .i64 code]) rfl (by kernel_rfl) (by kernel_rfl) (by kernel_rfl) (fun _ _ _ h => h) (Or.inl ⟨by rfl, fun w => by go_simp⟩) ?_
                  refine wpAny_take (i := 5) (v := svv ep1 (.slice a1 n1 k1) (.slice a2 n2 k2)) rfl (by kernel_rfl) (by kernel_rfl) (by kernel_rfl) (fun _ _ _ h => h) (Or.inl ⟨by rfl, fun w => by go_simp⟩) ?_
                  refine wpAny_take (i := 6) (v := rvD re (.slice a3 n3 k3)) rfl (by kernel_rfl) (by kernel_rfl) (by kernel_rfl) (fun _ _ _ h => h) (Or.inl ⟨by rfl, fun w => by go_simp⟩) ?_
                  refine wpAny_take (i := 7) (v := u1) rfl (by kernel_rfl) (by kernel_rfl) (by kernel_rfl) (fun _ _ _ h => h) (Or.inl ⟨by rfl, fun w => by go_simp⟩) ?_
                  refine wpAny_take (i := 8) (v := .int .i64 code) rfl (by kernel_rfl) (by kernel_rfl) (by kernel_rfl) (fun _ _ _ h => h) (Or.inl ⟨by rfl, fun w => by go_simp⟩) ?_
                  refine wpAny_ready (rs := [9]) (by kernel_rfl) (by simp) ?_
                  refine AllReady.cons rfl (fun K hK => ?_) AllReady.nil
                  · go_simp
                    refine hK _ _ ?_
                    clear hK K
                    have X4 := hidS (X3.out.alloc (svb 0 (.slice none 0 0) (.slice none 0 0)))
                    clear X3
                    generalize x3.alloc (.cells #[.int .i64 0, .slice none 0 0, .slice none 0 0] 43) = x4 at X4 ⊢
                    generalize x3.heap.size = p4 at X4 ⊢
                    obtain ⟨⟨t0, t1, t2⟩, t3, t4, t5⟩ := box3 X4.out.b0
                    have H11 := hidS (X4.out.map fun _ H => ((H.s300 (.int .i64 ep1)).s301 (.slice a1 n1 k1)).s302 (.slice a2 n2 k2))
                    refine wpAny_ready (rs := [11]) (by kernel_rfl) (by simp) ?_
                    refine AllReady.cons rfl (fun K hK => ?_) AllReady.nil
                    go_simp
                    refine hK _ _ ?_
                    clear hK K
                    clear t0 t1 t2 t3 t4 t5
                    generalize ((x4.setCell ⟨p4, 0, none⟩ (.int .i64 ep1)).setCell ⟨p4, 1, none⟩ (.slice a1 n1 k1)).setCell ⟨p4, 2, none⟩ (.slice a2 n2 k2) = y1 at H11 ⊢
                    obtain ⟨⟨t0, t1⟩, t3, t4⟩ := box2K H11.out.b1
                    have H12 := hidS (H11.out.map fun _ H => (H.s210 (.int .i64 re)).s211 (.slice a3 n3 k3))
                    clear H11
                    refine wpAny_ready (rs := [12]) (by kernel_rfl) (by simp) ?_
                    refine AllReady.cons rfl (fun K hK => ?_) AllReady.nil
                    go_simp
                    refine hK _ _ ?_
                    clear hK K
                    clear t0 t1 t3 t4
                    generalize (y1.setCell ⟨p5, 0, none⟩ (.int .i64 re)).setCell ⟨p5, 1, none⟩ (.slice a3 n3 k3) = y2 at H12 ⊢
                    refine wpAny_ready (rs := [13]) (by kernel_rfl) (by simp) ?_
                    refine AllReady.cons rfl (fun K hK => ?_) AllReady.nil
                    go_simp
                    refine hK _ _ ?_
                    clear hK K
                    refine wpAny_ready (rs := [14]) (by kernel_rfl) (by simp) ?_
                    refine AllReady.cons rfl (fun K hK => ?_) AllReady.nil
                    go_simp
                    refine hK _ _ ?_
                    clear hK K
                    refine wpAny_done (by kernel_rfl) ?_ _
                    go_wp2_with fail
                    go_meet
                    exact ⟨_, _, ep1, a1, n1, k1, a2, n2, k2, vs1, ss1, re, a3, n3, k3, wl, code, _, rfl, rfl, rfl, hn1, hn2, hz1, hz2, hwl, H12⟩
                · go_simp
                  refine hK _ _ ?_
                  clear hK K
                  have X3 := hidS (X2.out.alloc (svb 0 (.slice none 0 0) (.slice none 0 0)))
                  clear X2
                  generalize x2.alloc (.cells #[.int .i64 0, .slice none 0 0, .slice none 0 0] 43) = x3 at X3 ⊢
                  generalize x2.heap.size = p4 at X3 ⊢
                  refine wpAny_ready (rs := [3]) (by kernel_rfl) (by simp) ?_
                  refine AllReady.cons rfl (fun K hK => ?_) AllReady.nil
                  · go_simp
                    refine (specDone_any ep k0 m0 (show Ints bx (.slice ax nx cx) vs x3 from X3.out.at fun _ H => H.row (fI bx (.slice ax nx cx) vs) (by simp)) (show Seats by' (.slice ay ny cy) ss x3 from X3.out.at fun _ H => H.row (fS by' (.slice ay ny cy) ss) (by simp))).mono ?_
                    rintro e x4 ⟨ep1, Xn1, Yn1, vs1, ss1, re, v1, wl, u1, ks1, code, rfl, hz1, hi1, hs1, hz2, hw1, hwl, hz3, hz4, hb1, hz5⟩
                    have X4 := hidS (X3.out.map fun _ H => H.adds hb1 [fI x3.heap.size Xn1 vs1, fS x3.heap.size Yn1 ss1, fW x3.heap.size v1 wl] (rows3 hi1 hs1 hw1).1 (new_three _ _ _ _ _ _ _) (rows3 hi1 hs1 hw1).2)
                    obtain ⟨a1, n1, k1, rfl, hn1⟩ := iformL hi1
                    obtain ⟨a2, n2, k2, rfl, hn2⟩ := sformL hs1
                    obtain ⟨a3, n3, k3, rfl⟩ := wformL hw1
                    clear hz3 hz4 hz5 hi1 hs1 hw1 hb1 X3
                    refine hK _ _ ?_
                    clear hK K
                    refine wpAny_take (i := 4) (v := .tuple #[svv ep1 (.slice a1 n1 k1) (.slice a2 n2 k2), rvD re (.slice a3 n3 k3), u1, .int .i64 code]) rfl (by kernel_rfl) (by kernel_rfl) (by kernel_rfl) (fun _ _ _ h => h) (Or.inl ⟨by rfl, fun w => by go_simp⟩) ?_
                    refine wpAny_take (i := 5) (v := svv ep1 (.slice a1 n1 k1) (.slice a2 n2 k2)) rfl (by kernel_rfl) (by kernel_rfl) (by kernel_rfl) (fun _ _ _ h => h) (Or.inl ⟨by rfl, fun w => by go_simp⟩) ?_
                    refine wpAny_take (i := 6) (v := rvD re (.slice a3 n3 k3)) rfl (by kernel_rfl) (by kernel_rfl) (by kernel_rfl) (fun _ _ _ h => h) (Or.inl ⟨by rfl, fun w => by go_simp⟩) ?_
                    refine wpAny_take (i := 7) (v := u1) rfl (by kernel_rfl) (by kernel_rfl) (by kernel_rfl) (fun _ _ _ h => h) (Or.inl ⟨by rfl, fun w => by go_simp⟩) ?_
                    refine wpAny_take (i := 8) (v := .int .i64 code) rfl (by kernel_rfl) (by kernel_rfl) (by kernel_rfl) (fun _ _ _ h => h) (Or.inl ⟨by rfl, fun w => by go_simp⟩) ?_
                    obtain ⟨⟨t0, t1, t2⟩, t3, t4, t5⟩ := box3 X4.out.b0
                    have H11 := hidS (X4.out.map fun _ H => ((H.s300 (.int .i64 ep1)).s301 (.slice a1 n1 k1)).s302 (.slice a2 n2 k2))
                    refine wpAny_ready (rs := [11]) (by kernel_rfl) (by simp) ?_
                    refine AllReady.cons rfl (fun K hK => ?_) AllReady.nil
                    go_simp
                    refine hK _ _ ?_
                    clear hK K
                    clear t0 t1 t2 t3 t4 t5
                    generalize ((x4.setCell ⟨p4, 0, none⟩ (.int .i64 ep1)).setCell ⟨p4, 1, none⟩ (.slice a1 n1 k1)).setCell ⟨p4, 2, none⟩ (.slice a2 n2 k2) = y1 at H11 ⊢
                    obtain ⟨⟨t0, t1⟩, t3, t4⟩ := box2K H11.out.b1
                    have H12 := hidS (H11.out.map fun _ H => (H.s210 (.int .i64 re)).s211 (.slice a3 n3 k3))
                    clear H11
                    refine wpAny_ready (rs := [12]) (by kernel_rfl) (by simp) ?_
                    refine AllReady.cons rfl (fun K hK => ?_) AllReady.nil
                    go_simp
                    refine hK _ _ ?_
                    clear hK K
                    clear t0 t1 t3 t4
                    generalize (y1.setCell ⟨p5, 0, none⟩ (.int .i64 re)).setCell ⟨p5, 1, none⟩ (.slice a3 n3 k3) = y2 at H12 ⊢
                    refine wpAny_ready (rs := [13]) (by kernel_rfl) (by simp) ?_
                    refine AllReady.cons rfl (fun K hK => ?_) AllReady.nil
                    go_simp
                    refine hK _ _ ?_
                    clear hK K
                    refine wpAny_ready (rs := [14]) (by kernel_rfl) (by simp) ?_
                    refine AllReady.cons rfl (fun K hK => ?_) AllReady.nil
                    go_simp
                    refine hK _ _ ?_
                    clear hK K
                    refine wpAny_done (by kernel_rfl) ?_ _
                    go_wp2_with fail
                    go_meet
                    exact ⟨_, _, ep1, a1, n1, k1, a2, n2, k2, vs1, ss1, re, a3, n3, k3, wl, code, _, rfl, rfl, rfl, hn1, hn2, hz1, hz2, hwl, H12⟩
              · go_simp
                refine hK _ _ ?_
                clear hK K
                have X3 := hidS (X2.out.alloc (svb 0 (.slice none 0 0) (.slice none 0 0)))
                clear X2
                generalize x2.alloc (.cells #[.int .i64 0, .slice none 0 0, .slice none 0 0] 43) = x3 at X3 ⊢
                generalize x2.heap.size = p4 at X3 ⊢
                refine wpAny_ready (rs := [0]) (by kernel_rfl) (by simp) ?_
                refine AllReady.cons rfl (fun K hK => ?_) AllReady.nil
                · obtain ⟨⟨o0, o1, o2⟩, o3, o4, o5⟩ := box3 (X3.out.at fun _ H => H.box (w3.heap.size, svb ep (.slice ax nx cx) (.slice ay ny cy)) (by simp))
                  go_simp
                  refine hK _ _ ?_
                  clear hK K o0 o1 o2 o3 o4 o5
                  refine wpAny_ready (rs := [3]) (by kernel_rfl) (by simp) ?_
                  refine AllReady.cons rfl (fun K hK => ?_) AllReady.nil
                  · go_simp
                    refine (specDone_any ep k0 m0 (show Ints bx (.slice ax nx cx) vs x3 from X3.out.at fun _ H => H.row (fI bx (.slice ax nx cx) vs) (by simp)) (show Seats by' (.slice ay ny cy) ss x3 from X3.out.at fun _ H => H.row (fS by' (.slice ay ny cy) ss) (by simp))).mono ?_
                    rintro e x4 ⟨ep1, Xn1, Yn1, vs1, ss1, re, v1, wl, u1, ks1, code, rfl, hz1, hi1, hs1, hz2, hw1, hwl, hz3, hz4, hb1, hz5⟩
                    have X4 := hidS (X3.out.map fun _ H => H.adds hb1 [fI x3.heap.size Xn1 vs1, fS x3.heap.size Yn1 ss1, fW x3.heap.size v1 wl] (rows3 hi1 hs1 hw1).1 (new_three _ _ _ _ _ _ _) (rows3 hi1 hs1 hw1).2)
                    obtain ⟨a1, n1, k1, rfl, hn1⟩ := iformL hi1
                    obtain ⟨a2, n2, k2, rfl, hn2⟩ := sformL hs1
                    obtain ⟨a3, n3, k3, rfl⟩ := wformL hw1
                    clear hz3 hz4 hz5 hi1 hs1 hw1 hb1 X3
                    refine hK _ _ ?_
                    clear hK K
                    refine wpAny_take (i := 4) (v := .tuple #[svv ep1 (.slice a1 n1 k1) (.slice a2 n2 k2), rvD re (.slice a3 n3 k3), u1, .int .i64 code]) rfl (by kernel_rfl) (by kernel_rfl) (by kernel_rfl) (fun _ _ _ h => h) (Or.inl ⟨by rfl, fun w => by go_simp⟩) ?_
                    refine wpAny_take (i := 5) (v := svv ep1 (.slice a1 n1 k1) (.slice a2 n2 k2)) rfl (by kernel_rfl) (by kernel_rfl) (by kernel_rfl) (fun _ _ _ h => h) (Or.inl ⟨by rfl, fun w => by go_simp⟩) ?_
                    refine wpAny_take (i := 6) (v := rvD re (.slice a3 n3 k3)) rfl (by kernel_rfl) (by kernel_rfl) (by kernel_rfl) (fun _ _ _ h => h) (Or.inl ⟨by rfl, fun w => by go_simp⟩) ?_
                    refine wpAny_take (i := 7) (v := u1) rfl (by kernel_rfl) (by kernel_rfl) (by kernel_rfl) (fun _ _ _ h => h) (Or.inl ⟨by rfl, fun w => by go_simp⟩) ?_
                    refine wpAny_take (i := 8) (v := .int .i64 code) rfl (by kernel_rfl) (by kernel_rfl) (by kernel_rfl) (fun _ _ _ h => h) (Or.inl ⟨by rfl, fun w => by go_simp⟩) ?_
                    obtain ⟨⟨t0, t1, t2⟩, t3, t4, t5⟩ := box3 X4.out.b0
                    have H11 := hidS (X4.out.map fun _ H => ((H.s300 (.int .i64 ep1)).s301 (.slice a1 n1 k1)).s302 (.slice a2 n2 k2))
                    refine wpAny_ready (rs := [11]) (by kernel_rfl) (by simp) ?_
                    refine AllReady.cons rfl (fun K hK => ?_) AllReady.nil
                    go_simp
                    refine hK _ _ ?_
                    clear hK K
                    clear t0 t1 t2 t3 t4 t5
                    generalize ((x4.setCell ⟨p4, 0, none⟩ (.int .i64 ep1)).setCell ⟨p4, 1, none⟩ (.slice a1 n1 k1)).setCell ⟨p4, 2, none⟩ (.slice a2 n2 k2) = y1 at H11 ⊢
                    obtain ⟨⟨t0, t1⟩, t3, t4⟩ := box2K H11.out.b1
                    have H12 := hidS (H11.out.map fun _ H => (H.s210 (.int .i64 re)).s211 (.slice a3 n3 k3))
                    clear H11
                    refine wpAny_ready (rs := [12]) (by kernel_rfl) (by simp) ?_
                    refine AllReady.cons rfl (fun K hK => ?_) AllReady.nil
                    go_simp
                    refine hK _ _ ?_
                    clear hK K
                    clear t0 t1 t3 t4
                    generalize (y1.setCell ⟨p5, 0, none⟩ (.int .i64 re)).setCell ⟨p5, 1, none⟩ (.slice a3 n3 k3) = y2 at H12 ⊢
                    refine wpAny_ready (rs := [13]) (by kernel_rfl) (by simp) ?_
                    refine AllReady.cons rfl (fun K hK => ?_) AllReady.nil
                    go_simp
                    refine hK _ _ ?_
                    clear hK K
                    refine wpAny_ready (rs := [14]) (by kernel_rfl) (by simp) ?_
                    refine AllReady.cons rfl (fun K hK => ?_) AllReady.nil
                    go_simp
                    refine hK _ _ ?_
                    clear hK K
                    refine wpAny_done (by kernel_rfl) ?_ _
                    go_wp2_with fail
                    go_meet
                    exact ⟨_, _, ep1, a1, n1, k1, a2, n2, k2, vs1, ss1, re, a3, n3, k3, wl, code, _, rfl, rfl, rfl, hn1, hn2, hz1, hz2, hwl, H12⟩
            · go_simp
              refine hK _ _ ?_
              clear hK K
              have X2 := hidS (X1.out.alloc (svb 0 (.slice none 0 0) (.slice none 0 0)))
              clear X1
              generalize x1.alloc (.cells #[.int .i64 0, .slice none 0 0, .slice none 0 0] 43) = x2 at X2 ⊢
              generalize x1.heap.size = p4 at X2 ⊢
              refine wpAny_ready (rs := [0, 2]) (by kernel_rfl) (by simp) ?_
              refine AllReady.cons rfl (fun K hK => ?_) (AllReady.cons rfl (fun K hK => ?_) AllReady.nil)
              · obtain ⟨⟨o0, o1, o2⟩, o3, o4, o5⟩ := box3 (X2.out.at fun _ H => H.box (w3.heap.size, svb ep (.slice ax nx cx) (.slice ay ny cy)) (by simp))
                go_simp
                refine hK _ _ ?_
                clear hK K o0 o1 o2 o3 o4 o5
                refine wpAny_ready (rs := [2]) (by kernel_rfl) (by simp) ?_
                refine AllReady.cons rfl (fun K hK => ?_) AllReady.nil
                · go_simp
                  refine (drawOp_any B R _ X2.out.rd).mono ?_
                  rintro e x3 ⟨k0, m0, rfl, hR0, hg0⟩
                  have X3 := hidS (X2.out.read hR0 hg0)
                  clear hR0 hg0 X2
                  refine hK _ _ ?_
                  clear hK K
                  refine wpAny_ready (rs := [3]) (by kernel_rfl) (by simp) ?_
                  refine AllReady.cons rfl (fun K hK => ?_) AllReady.nil
                  · go_simp
                    refine (specDone_any ep k0 m0 (show Ints bx (.slice ax nx cx) vs x3 from X3.out.at fun _ H => H.row (fI bx (.slice ax nx cx) vs) (by simp)) (show Seats by' (.slice ay ny cy) ss x3 from X3.out.at fun _ H => H.row (fS by' (.slice ay ny cy) ss) (by simp))).mono ?_
                    rintro e x4 ⟨ep1, Xn1, Yn1, vs1, ss1, re, v1, wl, u1, ks1, code, rfl, hz1, hi1, hs1, hz2, hw1, hwl, hz3, hz4, hb1, hz5⟩
                    have X4 := hidS (X3.out.map fun _ H => H.adds hb1 [fI x3.heap.size Xn1 vs1, fS x3.heap.size Yn1 ss1, fW x3.heap.size v1 wl] (rows3 hi1 hs1 hw1).1 (new_three _ _ _ _ _ _ _) (rows3 hi1 hs1 hw1).2)
                    obtain ⟨a1, n1, k1, rfl, hn1⟩ := iformL hi1
                    obtain ⟨a2, n2, k2, rfl, hn2⟩ := sformL hs1
                    obtain ⟨a3, n3, k3, rfl⟩ := wformL hw1
                    clear hz3 hz4 hz5 hi1 hs1 hw1 hb1 X3
                    refine hK _ _ ?_
                    clear hK K
                    refine wpAny_take (i := 4) (v := .tuple #[svv ep1 (.slice a1 n1 k1) (.slice a2 n2 k2), rvD re (.slice a3 n3 k3), u1, .int .i64 code]) rfl (by kernel_rfl) (by kernel_rfl) (by kernel_rfl) (fun _ _ _ h => h) (Or.inl ⟨by rfl, fun w => by go_simp⟩) ?_
                    refine wpAny_take (i := 5) (v := svv ep1 (.slice a1 n1 k1) (.slice a2 n2 k2)) rfl (by kernel_rfl) (by kernel_rfl) (by kernel_rfl) (fun _ _ _ h => h) (Or.inl ⟨by rfl, fun w => by go_simp⟩) ?_
                    refine wpAny_take (i := 6) (v := rvD re (.slice a3 n3 k3)) rfl (by kernel_rfl) (by kernel_rfl) (by kernel_rfl) (fun _ _ _ h => h) (Or.inl ⟨by rfl, fun w => by go_simp⟩) ?_
                    refine wpAny_take (i := 7) (v := u1) rfl (by kernel_rfl) (by kernel_rfl) (by kernel_rfl) (fun _ _ _ h => h) (Or.inl ⟨by rfl, fun w => by go_simp⟩) ?_
                    refine wpAny_take (i := 8) (v := .int .i64 code) rfl (by kernel_rfl) (by kernel_rfl) (by kernel_rfl) (fun _ _ _ h => h) (Or.inl ⟨by rfl, fun w => by go_simp⟩) ?_
                    obtain ⟨⟨t0, t1, t2⟩, t3, t4, t5⟩ := box3 X4.out.b0
                    have H11 := hidS (X4.out.map fun _ H => ((H.s300 (.int .i64 ep1)).s301 (.slice a1 n1 k1)).s302 (.slice a2 n2 k2))
                    refine wpAny_ready (rs := [11]) (by kernel_rfl) (by simp) ?_
                    refine AllReady.cons rfl (fun K hK => ?_) AllReady.nil
                    go_simp
                    refine hK _ _ ?_
                    clear hK K
                    clear t0 t1 t2 t3 t4 t5
                    generalize ((x4.setCell ⟨p4, 0, none⟩ (.int .i64 ep1)).setCell ⟨p4, 1, none⟩ (.slice a1 n1 k1)).setCell ⟨p4, 2, none⟩ (.slice a2 n2 k2) = y1 at H11 ⊢
                    obtain ⟨⟨t0, t1⟩, t3, t4⟩ := box2K H11.out.b1
                    have H12 := hidS (H11.out.map fun _ H => (H.s210 (.int .i64 re)).s211 (.slice a3 n3 k3))
                    clear H11
                    refine wpAny_ready (rs := [12]) (by kernel_rfl) (by simp) ?_
                    refine AllReady.cons rfl (fun K hK => ?_) AllReady.nil
                    go_simp
                    refine hK _ _ ?_
                    clear hK K
                    clear t0 t1 t3 t4
                    generalize (y1.setCell ⟨p5, 0, none⟩ (.int .i64 re)).setCell ⟨p5, 1, none⟩ (.slice a3 n3 k3) = y2 at H12 ⊢
                    refine wpAny_ready (rs := [13]) (by kernel_rfl) (by simp) ?_
                    refine AllReady.cons rfl (fun K hK => ?_) AllReady.nil
                    go_simp
                    refine hK _ _ ?_
                    clear hK K
                    refine wpAny_ready (rs := [14]) (by kernel_rfl) (by simp) ?_
                    refine AllReady.cons rfl (fun K hK => ?_) AllReady.nil
                    go_simp
                    refine hK _ _ ?_
                    clear hK K
                    refine wpAny_done (by kernel_rfl) ?_ _
                    go_wp2_with fail
                    go_meet
                    exact ⟨_, _, ep1, a1, n1, k1, a2, n2, k2, vs1, ss1, re, a3, n3, k3, wl, code, _, rfl, rfl, rfl, hn1, hn2, hz1, hz2, hwl, H12⟩
              · go_simp
                refine (drawOp_any B R _ X2.out.rd).mono ?_
                rintro e x3 ⟨k0, m0, rfl, hR0, hg0⟩
                have X3 := hidS (X2.out.read hR0 hg0)
                clear hR0 hg0 X2
                refine hK _ _ ?_
                clear hK K
                refine wpAny_ready (rs := [0]) (by kernel_rfl) (by simp) ?_
                refine AllReady.cons rfl (fun K hK => ?_) AllReady.nil
                · obtain ⟨⟨o0, o1, o2⟩, o3, o4, o5⟩ := box3 (X3.out.at fun _ H => H.box (w3.heap.size, svb ep (.slice ax nx cx) (.slice ay ny cy)) (by simp))
                  go_simp
                  refine hK _ _ ?_
                  clear hK K o0 o1 o2 o3 o4 o5
                  refine wpAny_ready (rs := [3]) (by kernel_rfl) (by simp) ?_
                  refine AllReady.cons rfl (fun K hK => ?_) AllReady.nil
                  · go_simp
                    refine (specDone_any ep k0 m0 (show Ints bx (.slice ax nx cx) vs x3 from X3.out.at fun _ H => H.row (fI bx (.slice ax nx cx) vs) (by simp)) (show Seats by' (.slice ay ny cy) ss x3 from X3.out.at fun _ H => H.row (fS by' (.slice ay ny cy) ss) (by simp))).mono ?_
                    rintro e x4 ⟨ep1, Xn1, Yn1, vs1, ss1, re, v1, wl, u1, ks1, code, rfl, hz1, hi1, hs1, hz2, hw1, hwl, hz3, hz4, hb1, hz5⟩
                    have X4 := hidS (X3.out.map fun _ H => H.adds hb1 [fI x3.heap.size Xn1 vs1, fS x3.heap.size Yn1 ss1, fW x3.heap.size v1 wl] (rows3 hi1 hs1 hw1).1 (new_three _ _ _ _ _ _ _) (rows3 hi1 hs1 hw1).2)
                    obtain ⟨a1, n1, k1, rfl, hn1⟩ := iformL hi1
                    obtain ⟨a2, n2, k2, rfl, hn2⟩ := sformL hs1
                    obtain ⟨a3, n3, k3, rfl⟩ := wformL hw1
                    clear hz3 hz4 hz5 hi1 hs1 hw1 hb1 X3
                    refine hK _ _ ?_
                    clear hK K
                    refine wpAny_take (i := 4) (v := .tuple #[svv ep1 (.slice a1 n1 k1) (.slice a2 n2 k2), rvD re (.slice a3 n3 k3), u1, .int .i64 code]) rfl (by kernel_rfl) (by kernel_rfl) (by kernel_rfl) (fun _ _ _ h => h) (Or.inl ⟨by rfl, fun w => by go_simp⟩) ?_
                    refine wpAny_take (i := 5) (v := svv ep1 (.slice a1 n1 k1) (.slice a2 n2 k2)) rfl (by kernel_rfl) (by kernel_rfl) (by kernel_rfl) (fun _ _ _ h => h) (Or.inl ⟨by rfl, fun w => by go_simp⟩) ?_
                    refine wpAny_take (i := 6) (v := rvD re (.slice a3 n3 k3)) rfl (by kernel_rfl) (by kernel_rfl) (by kernel_rfl) (fun _ _ _ h => h) (Or.inl ⟨by rfl, fun w => by go_simp⟩) ?_
                    refine wpAny_take (i := 7) (v := u1) rfl (by kernel_rfl) (by kernel_rfl) (by kernel_rfl) (fun _ _ _ h => h) (Or.inl ⟨by rfl, fun w => by go_simp⟩) ?_
                    refine wpAny_take (i := 8) (v := .int .i64 code) rfl (by kernel_rfl) (by kernel_rfl) (by kernel_rfl) (fun _ _ _ h => h) (Or.inl ⟨by rfl, fun w => by go_simp⟩) ?_
                    obtain ⟨⟨t0, t1, t2⟩, t3, t4, t5⟩ := box3 X4.out.b0
                    have H11 := hidS (X4.out.map fun _ H => ((H.s300 (.int .i64 ep1)).s301 (.slice a1 n1 k1)).s302 (.slice a2 n2 k2))
                    refine wpAny_ready (rs := [11]) (by kernel_rfl) (by simp) ?_
                    refine AllReady.cons rfl (fun K hK => ?_) AllReady.nil
                    go_simp
                    refine hK _ _ ?_
                    clear hK K
                    clear t0 t1 t2 t3 t4 t5
                    generalize ((x4.setCell ⟨p4, 0, none⟩ (.int .i64 ep1)).setCell ⟨p4, 1, none⟩ (.slice a1 n1 k1)).setCell ⟨p4, 2, none⟩ (.slice a2 n2 k2) = y1 at H11 ⊢
                    obtain ⟨⟨t0, t1⟩, t3, t4⟩ := box2K H11.out.b1
                    have H12 := hidS (H11.out.map fun _ H => (H.s210 (.int .i64 re)).s211 (.slice a3 n3 k3))
                    clear H11
                    refine wpAny_ready (rs := [12]) (by kernel_rfl) (by simp) ?_
                    refine AllReady.cons rfl (fun K hK => ?_) AllReady.nil
                    go_simp
                    refine hK _ _ ?_
                    clear hK K
                    clear t0 t1 t3 t4
                    generalize (y1.setCell ⟨p5, 0, none⟩ (.int .i64 re)).setCell ⟨p5, 1, none⟩ (.slice a3 n3 k3) = y2 at H12 ⊢
                    refine wpAny_ready (rs := [13]) (by kernel_rfl) (by simp) ?_
                    refine AllReady.cons rfl (fun K hK => ?_) AllReady.nil
                    go_simp
                    refine hK _ _ ?_
                    clear hK K
                    refine wpAny_ready (rs := [14]) (by kernel_rfl) (by simp) ?_
                    refine AllReady.cons rfl (fun K hK => ?_) AllReady.nil
                    go_simp
                    refine hK _ _ ?_
                    clear hK K
                    refine wpAny_done (by kernel_rfl) ?_ _
                    go_wp2_with fail
                    go_meet
                    exact ⟨_, _, ep1, a1, n1, k1, a2, n2, k2, vs1, ss1, re, a3, n3, k3, wl, code, _, rfl, rfl, rfl, hn1, hn2, hz1, hz2, hwl, H12⟩
        case rest =>
          obtain ⟨p4, p5, ep1, a1, n1, k1, a2, n2, k2, vs1, ss1, re, a3, n3, k3, wl, code, zD, rfl, rfl, rfl, hn1, hn2, hv1, hs1, hwl, HC⟩ := hcut
          clear HX HXd hS0 o0 o1 o2 e0 e1 e2
          by_cases hc : code = 0
          · have hc' : (code == 0) = true := by simpa using hc
            clear hc
            obtain ⟨i0, hii, hz0, hz1, hz2⟩ := info_parts infoRe
            obtain ⟨⟨q0, q1, q2⟩, _, _, _⟩ := box3 HC.out.b0
            obtain ⟨⟨o0, o1, o2⟩, e0, e1, e2⟩ := box3 (HC.out.at fun _ H => H.box (w3.heap.size, svb ep (.slice ax nx cx) (.slice ay ny cy)) (by simp))
            have H13 := hidS ((HC.out.permB (List.perm_middle (l₁ := [_, _, _]))).map fun _ H => ((H.s300 (.int .i64 ep1)).s301 (.slice a1 n1 k1)).s302 (.slice a2 n2 k2))
            clear HC
            go_upto_region 14 with fail
            generalize ((wc.setCell ⟨w3.heap.size, 0, none⟩ (.int .i64 ep1)).setCell ⟨w3.heap.size, 1, none⟩ (.slice a1 n1 k1)).setCell ⟨w3.heap.size, 2, none⟩ (.slice a2 n2 k2) = w13 at H13 ⊢
            clear q0 q1 q2 o0 o1 o2 e0 e1 e2
            obtain ⟨⟨q0, q1⟩, _, _⟩ := box2K H13.out.b2
            have H14 := hidS (((H13.out.sub (bs' := (w3.heap.size, svb ep1 (.slice a1 n1 k1) (.slice a2 n2 k2)) :: (w5.heap.size, mb id me (.slice ak nk ck)) :: (W.heap.size + 1, (svb 0 (.slice none 0 0) (.slice none 0 0))) :: (W.heap.size, mb 0 0 (.slice none 0 0)) :: []) (rs' := [fI zD (.slice a1 n1 k1) vs1, fS zD (.slice a2 n2 k2) ss1, fW zD (.slice a3 n3 k3) wl, fL W.heap.size (.slice al nl cl) es, fK bk (.slice ak nk ck) ks] ++ es.map reRow) (.cons_cons _ (.cons _ (.cons _ (List.Sublist.refl _)))) (.cons_cons _ (.cons_cons _ (.cons_cons _ (.cons_cons _ (.cons_cons _ (.cons _ (.cons _ (List.Sublist.refl _))))))))).permB (List.Perm.swap _ _ _)).perm
              (((List.perm_append_comm (l₁ := [fI zD (.slice a1 n1 k1) vs1, fS zD (.slice a2 n2 k2) ss1, fW zD (.slice a3 n3 k3) wl]) (l₂ := [fL W.heap.size (.slice al nl cl) es, fK bk (.slice ak nk ck) ks])).append_right (es.map reRow)).trans (List.Perm.append_left [fL W.heap.size (.slice al nl cl) es, fK bk (.slice ak nk ck) ks, fI zD (.slice a1 n1 k1) vs1, fS zD (.slice a2 n2 k2) ss1] (List.perm_append_comm (l₁ := [fW zD (.slice a3 n3 k3) wl]) (l₂ := es.map reRow)))))
            clear H13
            have H15 := hidS (H14.out.alloc (rbD re (.slice a3 n3 k3)))
            have O15 := hidS (show (w13.alloc (rbD re (.slice a3 n3 k3))).ownsRow W.heap.size 29 2 (.slice al nl cl) nl (recells es) from fL_own (H14.out.since (one_below w13 (rbD re (.slice a3 n3 k3)))).r0 hes)
            have C15 := hidS (cell_two' w13 (.int .i64 re) (.slice a3 n3 k3) 29)
            have hz13 := H14.out.size
            go_wp2_with (at_builtin; refine wpList_append_own _ rfl _ _ 52 rfl W.heap.size 29 i0 (.agg #[.int .i64 0, .slice none 0 0]) 2 32 Try.underlying52 hii hz0 hz1 hz2 rfl (by decide) _ _ _ rfl O15.out ⟨w13.heap.size, 0, none⟩ 1 1 [.int .i64 re, (.slice a3 n3 k3)] rfl rfl C15.out (by simp [Value.oneCell']) (by unfold maxLen; omega) (by omega) (by simp; omega) ?_; intro v' w15 hown' hgrow _)
            obtain ⟨gB, cB, rfl⟩ := row_formL hown'
            have HF := hidS ((H14.out.since (one_below w13 (rbD re (.slice a3 n3 k3)))).map fun _ H => Hex.turn0 (r := fL W.heap.size (.slice al nl cl) es) (r' := fL W.heap.size (.slice (some ⟨gB, 0, none⟩) (nl + 1) cB) (es ++ [⟨re, (.slice a3 n3 k3), wl, zD⟩])) H hgrow (fL_on hown' (by simp [hes]) (recells_append _ _)) rfl ⟨fun s hs0 => by
              have hs : s ∈ fK bk (.slice ak nk ck) ks :: fI zD (.slice a1 n1 k1) vs1 :: fS zD (.slice a2 n2 k2) ss1 :: (es.map reRow ++ [fW zD (.slice a3 n3 k3) wl]) := hs0
              simp only [List.mem_cons, List.mem_append, List.not_mem_nil, or_false] at hs
              rcases hs with rfl | rfl | rfl | hs | rfl
              · exact (by decide : (36 : TypeId) ≠ 29)
              · exact (by decide : (2 : TypeId) ≠ 29)
              · exact (by decide : (90 : TypeId) ≠ 29)
              · exact re_types es (by decide : (112 : TypeId) ≠ 29) s hs
              · exact (by decide : (112 : TypeId) ≠ 29), fun p hp0 => by
              have hp : p ∈ [(w5.heap.size, mb id me (.slice ak nk ck)), (w3.heap.size, svb ep1 (.slice a1 n1 k1) (.slice a2 n2 k2)), (W.heap.size + 1, (svb 0 (.slice none 0 0) (.slice none 0 0))), (W.heap.size, mb 0 0 (.slice none 0 0))] := hp0
              simp only [List.mem_cons, List.not_mem_nil, or_false] at hp
              rcases hp with rfl | rfl | rfl | rfl <;> simp [objType]⟩)
            go_roundw
            case rel => exact ⟨j - 1, ep1, a1, n1, k1, a2, n2, k2, zD, zD, vs1, ss1, some ⟨gB, 0, none⟩, nl + 1, cB, es ++ [⟨re, (.slice a3 n3 k3), wl, zD⟩], rfl, by go_num, by omega, by simp [hes], hn2, by omega, hn1, by rw [List.map_append]; exact HF⟩
            case measure => simp [intOf]; omega
          · have hc' : (code == 0) = false := by simpa using hc
            clear hc
            have HS := hidS (HC.out.sub (bs' := [(w5.heap.size, mb id me (.slice ak nk ck)), (w3.heap.size, svb ep (.slice ax nx cx) (.slice ay ny cy)), (W.heap.size + 1, (svb 0 (.slice none 0 0) (.slice none 0 0))), (W.heap.size, mb 0 0 (.slice none 0 0))]) (rs' := (fL W.heap.size (.slice al nl cl) es :: fK bk (.slice ak nk ck) ks :: fI bx (.slice ax nx cx) vs :: fS by' (.slice ay ny cy) ss :: es.map reRow)) (.cons _ (.cons _ (List.Sublist.refl _))) (.cons _ (.cons _ (.cons _ (List.Sublist.refl _)))))
            clear HC
            go_wp2
            go_roundw
            case rel => exact ⟨j - 1, ep, ax, nx, cx, ay, ny, cy, bx, by', vs, ss, al, nl, cl, es, rfl, by go_num, by omega, hes, hny, h9, hnx, HS⟩
            case measure => simp [intOf]; omega
end Go.Proofs.Ytjilbfohfgalkaa
