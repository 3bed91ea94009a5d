
/- toWorld of the exact laws: a world of the program's in memory of its own. -/
import Derived.Test.YthfgiabkafdbdaaWlEq
import Derived.Deep.CutRange
namespace Go.Proofs.Ythfgiabkafdbdaa
open Go.RowKit

theorem memsKept {B p : Nat} {v : Value} {ds : List MD} {W W' : World} (h : Mems B v ds W) (hv : ∀ k, v.ownBlock = some k → B ≤ k) (hg : W.grownBy W' (some p)) (hp : p < B) : Mems B v ds W' := by
  rcases h with h | ⟨b, off, c, rfl, hl, hm, hs⟩
  · exact .inl h
  · have hb : B ≤ b := hv b rfl
    refine .inr ⟨b, off, c, rfl, Nat.lt_of_lt_of_le hl hg.size, hm, fun i hi => ?_⟩
    obtain ⟨u, h1, h2, h3, h4⟩ := hs i hi
    exact ⟨u, hg.cell h1 (fun e => by injection e with e; dsimp only at e; omega), hg.cell h2 (fun e => by injection e with e; dsimp only at e; omega), hg.cell h3 (fun e => by injection e with e; dsimp only at e; omega), Keys.kept h4 hg (fun k e e' => by cases e; have := (Keys.lt h4 _ e').1; omega)⟩
theorem mailsKept {B p : Nat} {v : Value} {ds : List LD} {W W' : World} (h : Mails B v ds W) (hv : ∀ k, v.ownBlock = some k → B ≤ k) (hg : W.grownBy W' (some p)) (hp : p < B) : Mails B v ds W' := by
  rcases h with h | ⟨b, off, c, rfl, hl, hm, hs⟩
  · exact .inl h
  · have hb : B ≤ b := hv b rfl
    refine .inr ⟨b, off, c, rfl, Nat.lt_of_lt_of_le hl hg.size, hm, fun i hi => ?_⟩
    obtain ⟨u, h1, h2, h3, h4⟩ := hs i hi
    exact ⟨u, hg.cell h1 (fun e => by injection e with e; dsimp only at e; omega), hg.cell h2 (fun e => by injection e with e; dsimp only at e; omega), hg.cell h3 (fun e => by injection e with e; dsimp only at e; omega), wrapsKept h4 hg (fun k e e' => by cases e; have := (World.ownsRow.lt h4 _ e').1; omega)⟩
theorem put3_box5 {R : Nat} {W : World} {a b c d e : Value} {t : TypeId} (h : W.heap[R]? = some (.cells #[a, b, c, d, e] t)) (a' b' c' : Value) : (((W.setCell ⟨R, 0, none⟩ a').setCell ⟨R, 1, none⟩ b').setCell ⟨R, 2, none⟩ c').heap[R]? = some (.cells #[a', b', c', d, e] t) := by
  simp [World.setCell, Array.getElem?_modify, h]
theorem set3_box5 {R : Nat} {W : World} {a b c d e : Value} {t : TypeId} (h : W.heap[R]? = some (.cells #[a, b, c, d, e] t)) (d' : Value) : (W.setCell ⟨R, 3, none⟩ d').heap[R]? = some (.cells #[a, b, c, d', e] t) := by
  simp [World.setCell, Array.getElem?_modify, h]
theorem set4_box5 {R : Nat} {W : World} {a b c d e : Value} {t : TypeId} (h : W.heap[R]? = some (.cells #[a, b, c, d, e] t)) (e' : Value) : (W.setCell ⟨R, 4, none⟩ e').heap[R]? = some (.cells #[a, b, c, d, e'] t) := by
  simp [World.setCell, Array.getElem?_modify, h]
theorem erd_slice {α : Type} {P : Value → List α → World → Prop} {v : Value} {ds : List (Int × Int × List α)} {W : World} (h : ERd P v ds W) : ∃ a c, v = .slice a ds.length c := by
  obtain ⟨a, c, e, _⟩ := h.len
  exact ⟨a, c, e⟩

/-- A world, as an answer. -/
structure WlIs (B : Nat) (x y m l : Value) (vs : List Int) (ss : List (Int × Int)) (ds : List MD) (ls : List LD) (W : World) : Prop where
  x : Ints B x vs W
  y : Seats B y ss W
  m : Mems B m ds W
  l : Mails B l ls W
theorem WlIs.since {B : Nat} {x y m l : Value} {vs : List Int} {ss : List (Int × Int)} {ds : List MD} {ls : List LD} {W W' : World} (h : WlIs B x y m l vs ss ds ls W) (hb : Below W.heap.size W W') : WlIs B x y m l vs ss ds ls W' :=
  ⟨h.x.since hb, h.y.since hb, ERd.since (stableK _) h.m hb, ERd.since (stableW _) h.l hb⟩
theorem mems_mono {B B' : Nat} {v : Value} {ds : List MD} {W : World} (h : Mems B v ds W) (hB : B' ≤ B) : Mems B' v ds W := by
  rcases h with h | ⟨b, off, c, e, hl, hm, hs⟩
  · exact .inl h
  · refine .inr ⟨b, off, c, e, hl, hm, fun i hi => ?_⟩
    obtain ⟨u, h1, h2, h3, h4⟩ := hs i hi
    exact ⟨u, h1, h2, h3, Keys.mono h4 hB⟩
theorem mails_mono {B B' : Nat} {v : Value} {ds : List LD} {W : World} (h : Mails B v ds W) (hB : B' ≤ B) : Mails B' v ds W := by
  rcases h with h | ⟨b, off, c, e, hl, hm, hs⟩
  · exact .inl h
  · refine .inr ⟨b, off, c, e, hl, hm, fun i hi => ?_⟩
    obtain ⟨u, h1, h2, h3, h4⟩ := hs i hi
    exact ⟨u, h1, h2, h3, Wraps.mono h4 hB⟩

set_option maxRecDepth 100000 in
set_option maxHeartbeats 2000000 in
theorem toWorld_any (ep : Int) (x y m l : Value) (vs : List Int) (ss : List (Int × Int)) (ds : List MD) (ls : List LD) (w : World) (hx : InInts x vs w) (hy : InSeats y ss w) (hd : InMems m ds w) (hl : InMails l ls w) (hS : SmallW vs ss ds ls) :
    Calls Try.prog 33 #[wlv ep x y m l] w fun e w' => ∃ x' y' m' l', e = .returned (wlv ep x' y' m' l') ∧ WlIs w.heap.size x' y' m' l' vs ss ds ls w' ∧ Below w.heap.size w w' := by
  obtain ⟨n1, n2, ⟨n3, n4⟩, n5, n6⟩ := hS
  have HIn := hidOf' (And.intro hx (And.intro hy (And.intro hd hl)))
  obtain ⟨ax, cx, hvx, _⟩ := hx.len
  obtain ⟨ay, cy, hvy, _⟩ := hy.len
  obtain ⟨am, cm, hvm⟩ := erd_slice hd
  obtain ⟨al, cl, hvl⟩ := erd_slice hl
  subst hvx hvy hvm hvl
  obtain ⟨w3, hw3⟩ : ∃ w3, ((w.alloc (lwlb ep (.slice ax vs.length cx) (.slice ay ss.length cy) (.slice am ds.length cm) (.slice al ls.length cl))).alloc (wlb 0 (.slice none 0 0) (.slice none 0 0) (.slice none 0 0) (.slice none 0 0))).alloc (wlb 0 (.slice none 0 0) (.slice none 0 0) (.slice none 0 0) (.slice none 0 0)) = w3 := ⟨_, rfl⟩
  have hB3 : Below w.heap.size w w3 := by rw [← hw3]; exact (two_below w _ _).alloc (by simp; omega) _
  have hs3 : w3.heap.size = w.heap.size + 1 + 1 + 1 := by rw [← hw3]; simp
  have k1 : w3.heap[w.heap.size]? = some (lwlb ep (.slice ax vs.length cx) (.slice ay ss.length cy) (.slice am ds.length cm) (.slice al ls.length cl)) := by
    rw [← hw3, Below.heap_alloc _ _ _ (by simp; omega), Below.heap_alloc _ _ _ (by simp)]
    exact heap_alloc_new w _
  have k2 : w3.heap[w.heap.size + 1]? = some (wlb 0 (.slice none 0 0) (.slice none 0 0) (.slice none 0 0) (.slice none 0 0)) := by
    rw [← hw3, Below.heap_alloc _ _ _ (by simp)]
    have := heap_alloc_new (w.alloc (lwlb ep (.slice ax vs.length cx) (.slice ay ss.length cy) (.slice am ds.length cm) (.slice al ls.length cl))) (wlb 0 (.slice none 0 0) (.slice none 0 0) (.slice none 0 0) (.slice none 0 0))
    simpa using this
  have k3 : w3.heap[w.heap.size + 1 + 1]? = some (wlb 0 (.slice none 0 0) (.slice none 0 0) (.slice none 0 0) (.slice none 0 0)) := by
    have := heap_alloc_new ((w.alloc (lwlb ep (.slice ax vs.length cx) (.slice ay ss.length cy) (.slice am ds.length cm) (.slice al ls.length cl))).alloc (wlb 0 (.slice none 0 0) (.slice none 0 0) (.slice none 0 0) (.slice none 0 0))) (wlb 0 (.slice none 0 0) (.slice none 0 0) (.slice none 0 0) (.slice none 0 0))
    rw [← hw3]
    simpa using this
  clear hx hy hd hl
  obtain ⟨⟨q0, q1, q2, q3, q4⟩, _, _, _, _, _⟩ := box5 k1
  go_enter Try.func33, Try.ntmps33
  go_upto_region 2 with fail
  try rw [hw3]
  clear hw3
  go_wp2_with fail
  refine (toServer_any ep _ _ vs ss _ (HIn.out.1.below hB3 (Nat.le_refl _)) (HIn.out.2.1.below hB3 (Nat.le_refl _)) n1 n2).mono ?_
  rintro e w4 ⟨x4, y4, rfl, s4, b4⟩
  obtain ⟨ax4, cx4, hvx4, _, _⟩ := s4.1.row
  obtain ⟨ay4, cy4, hvy4, _, _⟩ := s4.2.1.row
  have k1 := (b4.block w.heap.size (by omega)).trans k1
  have k2 := (b4.block (w.heap.size + 1) (by omega)).trans k2
  have k3 := (b4.block (w.heap.size + 1 + 1) (by omega)).trans k3
  have hs4 := b4.size
  have B4 := hidOf' (more hB3 b4)
  have X4 := hidOf' s4.1
  have Y4 := hidOf' s4.2.1
  subst hvx4 hvy4
  clear s4 b4 hB3 q0 q1 q2 q3 q4
  obtain ⟨⟨p0, p1, p2, p3, p4⟩, f0, f1, f2, f3, f4⟩ := box5 k3
  go_upto_region 3 with fail
  obtain ⟨w5, hw5⟩ : ∃ w5, ((w4.setCell ⟨w.heap.size + 1 + 1, 0, none⟩ (.int .i64 ep)).setCell ⟨w.heap.size + 1 + 1, 1, none⟩ (.slice ax4 vs.length cx4)).setCell ⟨w.heap.size + 1 + 1, 2, none⟩ (.slice ay4 ss.length cy4) = w5 := ⟨_, rfl⟩
  have g5 : w4.grownBy w5 (some (w.heap.size + 1 + 1)) := by rw [← hw5]; exact ((grown_set _ _ _ _).trans (grown_set _ _ _ _)).trans (grown_set _ _ _ _)
  have k3 : w5.heap[w.heap.size + 1 + 1]? = some (wlb ep (.slice ax4 vs.length cx4) (.slice ay4 ss.length cy4) (.slice none 0 0) (.slice none 0 0)) := by rw [← hw5]; exact put3_box5 k3 _ _ _
  rw [hw5]
  have k1 := blk' g5 k1 (by omega)
  have k2 := blk' g5 k2 (by omega)
  have hs5 := g5.size
  have B5 := hidOf' (B4.out.grown g5 B4.out.size (fun k e => by cases e; omega))
  have X5 := hidOf' (X4.out.kept g5 (fun k e e' => by cases e; have := (X4.out.lt _ e').1; omega))
  have Y5 := hidOf' (Y4.out.kept g5 (fun k e e' => by cases e; have := (Y4.out.lt _ e').1; omega))
  clear hw5 g5 X4 Y4 B4 p0 p1 p2 p3 p4 f0 f1 f2 f3 f4
  obtain ⟨⟨q0, q1, q2, q3, q4⟩, _, _, _, _, _⟩ := box5 k1
  go_wp2_with fail
  refine (toMemberS_any _ ds w5 (ERd.since stableIK HIn.out.2.2.1 B5.out) n3 n4).mono ?_
  rintro e w6 ⟨m6, rfl, d6, hv6, b6⟩
  obtain ⟨am6, cm6, hvm6⟩ := erd_slice d6
  subst hvm6
  have k1 := (b6.block w.heap.size (by omega)).trans k1
  have k2 := (b6.block (w.heap.size + 1) (by omega)).trans k2
  have k3 := (b6.block (w.heap.size + 1 + 1) (by omega)).trans k3
  have hs6 := b6.size
  have B6 := hidOf' (more B5.out b6)
  have X6 := hidOf' (X5.out.since b6)
  have Y6 := hidOf' (Y5.out.since b6)
  have D6 := hidOf' (And.intro d6 hv6)
  clear d6 hv6 b6 X5 Y5 B5 q0 q1 q2 q3 q4
  obtain ⟨⟨p0, p1, p2, p3, p4⟩, f0, f1, f2, f3, f4⟩ := box5 k3
  go_upto_region 4 with fail
  obtain ⟨w7, hw7⟩ : ∃ w7, w6.setCell ⟨w.heap.size + 1 + 1, 3, none⟩ (.slice am6 ds.length cm6) = w7 := ⟨_, rfl⟩
  have g7 : w6.grownBy w7 (some (w.heap.size + 1 + 1)) := by rw [← hw7]; exact grown_set _ _ _ _
  have k3 : w7.heap[w.heap.size + 1 + 1]? = some (wlb ep (.slice ax4 vs.length cx4) (.slice ay4 ss.length cy4) (.slice am6 ds.length cm6) (.slice none 0 0)) := by rw [← hw7]; exact set3_box5 k3 _
  rw [hw7]
  have k1 := blk' g7 k1 (by omega)
  have k2 := blk' g7 k2 (by omega)
  have hs7 := g7.size
  have B7 := hidOf' (B6.out.grown g7 B6.out.size (fun k e => by cases e; omega))
  have X7 := hidOf' (X6.out.kept g7 (fun k e e' => by cases e; have := (X6.out.lt _ e').1; omega))
  have Y7 := hidOf' (Y6.out.kept g7 (fun k e e' => by cases e; have := (Y6.out.lt _ e').1; omega))
  have D7 := hidOf' (memsKept D6.out.1 D6.out.2 g7 (by omega))
  clear hw7 g7 X6 Y6 B6 p0 p1 p2 p3 p4 f0 f1 f2 f3 f4
  obtain ⟨⟨q0, q1, q2, q3, q4⟩, _, _, _, _, _⟩ := box5 k1
  go_wp2_with fail
  refine (toMailS_any _ ls w7 (ERd.since stableIW HIn.out.2.2.2 B7.out) n5 n6).mono ?_
  rintro e w8 ⟨l8, rfl, d8, hv8, b8⟩
  obtain ⟨al8, cl8, hvl8⟩ := erd_slice d8
  subst hvl8
  have k2 := (b8.block (w.heap.size + 1) (by omega)).trans k2
  have k3 := (b8.block (w.heap.size + 1 + 1) (by omega)).trans k3
  have hs8 := b8.size
  have B8 := hidOf' (more B7.out b8)
  have X8 := hidOf' (X7.out.since b8)
  have Y8 := hidOf' (Y7.out.since b8)
  have D8 := hidOf' (ERd.since (stableK _) D7.out b8)
  have L8 := hidOf' (And.intro d8 hv8)
  have HV := hidOf' (And.intro D6.out.2 hs6)
  clear d8 hv8 b8 X7 Y7 B7 D7 D6 q0 q1 q2 q3 q4 k1
  obtain ⟨⟨p0, p1, p2, p3, p4⟩, f0, f1, f2, f3, f4⟩ := box5 k3
  obtain ⟨⟨r0, r1, r2, r3, r4⟩, u0, u1, u2, u3, u4⟩ := box5 k2
  obtain ⟨wf, hwf⟩ : ∃ wf, (((((w8.setCell ⟨w.heap.size + 1 + 1, 4, none⟩ (.slice al8 ls.length cl8)).setCell ⟨w.heap.size + 1, 0, none⟩ (.int .i64 ep)).setCell ⟨w.heap.size + 1, 1, none⟩ (.slice ax4 vs.length cx4)).setCell ⟨w.heap.size + 1, 2, none⟩ (.slice ay4 ss.length cy4)).setCell ⟨w.heap.size + 1, 3, none⟩ (.slice am6 ds.length cm6)).setCell ⟨w.heap.size + 1, 4, none⟩ (.slice al8 ls.length cl8) = wf := ⟨_, rfl⟩
  have g9 := grown_set w8 (w.heap.size + 1 + 1) 4 (.slice al8 ls.length cl8)
  have k29 := blk' g9 k2 (by omega)
  have gf : (w8.setCell ⟨w.heap.size + 1 + 1, 4, none⟩ (.slice al8 ls.length cl8)).grownBy wf (some (w.heap.size + 1)) := by rw [← hwf]; exact put5_grown _ _ _ _ _ _ _
  have kf : wf.heap[w.heap.size + 1]? = some (wlb ep (.slice ax4 vs.length cx4) (.slice ay4 ss.length cy4) (.slice am6 ds.length cm6) (.slice al8 ls.length cl8)) := by rw [← hwf]; exact put5_box k29 _ _ _ _ _
  have HWF := hidOf' hwf
  have B9 : Below w.heap.size w (w8.setCell ⟨w.heap.size + 1 + 1, 4, none⟩ (.slice al8 ls.length cl8)) := B8.out.grown g9 B8.out.size (fun k e => by cases e; omega)
  have BF := hidOf' (B9.grown gf B9.size (fun k e => by cases e; omega))
  have XF := hidOf' ((X8.out.kept g9 (fun k e e' => by cases e; have := (X8.out.lt _ e').1; omega)).kept gf (fun k e e' => by cases e; have := (X8.out.lt _ e').1; omega))
  have YF := hidOf' ((Y8.out.kept g9 (fun k e e' => by cases e; have := (Y8.out.lt _ e').1; omega)).kept gf (fun k e e' => by cases e; have := (Y8.out.lt _ e').1; omega))
  have DF := hidOf' (memsKept (memsKept D8.out HV.out.1 g9 (by omega)) HV.out.1 gf (by omega))
  have LF := hidOf' (mailsKept (mailsKept L8.out.1 L8.out.2 g9 (by omega)) L8.out.2 gf (by omega))
  clear hwf g9 k29 gf B9 X8 Y8 D8 L8 B8 HV
  go_wp2
  rw [HWF.out]
  obtain ⟨⟨z0, z1, z2, z3, z4⟩, _, _, _, _, _⟩ := box5 kf
  exact bodyPost_ret (v := wlv ep (.slice ax4 vs.length cx4) (.slice ay4 ss.length cy4) (.slice am6 ds.length cm6) (.slice al8 ls.length cl8)) (by simp [results, Try.results33, go_sem, z0, z1, z2, z3, z4]) rfl ⟨_, _, _, _, rfl, ⟨XF.out.mono (by omega), YF.out.mono (by omega), mems_mono DF.out (by omega), mails_mono LF.out (by omega)⟩, BF.out⟩
end Go.Proofs.Ythfgiabkafdbdaa
