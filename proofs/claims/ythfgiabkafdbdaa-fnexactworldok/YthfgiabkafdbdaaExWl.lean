
/- The walk of the exact law of WorldOk: it answers true at every world, and nothing that lay there turns. -/
import Derived.Test.YthfgiabkafdbdaaWlIm2
import Derived.Test.YthfgiabkafdbdaaWlSp
namespace Go.Proofs.Ythfgiabkafdbdaa
open Go.RowKit

theorem WlIs.slices {B : Nat} {x y m l : Value} {vs : List Int} {ss : List (Int × Int)} {ds : List MD} {ls : List LD} {W : World} (h : WlIs B x y m l vs ss ds ls W) :
    (∃ a c, x = .slice a vs.length c) ∧ (∃ a c, y = .slice a ss.length c) ∧ (∃ a c, m = .slice a ds.length c) ∧ ∃ a c, l = .slice a ls.length c := by
  obtain ⟨a1, c1, h1, _, _⟩ := h.x.row
  obtain ⟨a2, c2, h2, _, _⟩ := h.y.row
  exact ⟨⟨a1, c1, h1⟩, ⟨a2, c2, h2⟩, erd_slice h.m, erd_slice h.l⟩
set_option maxRecDepth 100000 in
set_option maxHeartbeats 4000000 in
theorem exWorldOk_any (ep : Int) (x y m l : Value) (vs : List Int) (ss : List (Int × Int)) (ds : List MD) (ls : List LD) (w : World) (hx : InInts x vs w) (hy : InSeats y ss w) (hd : InMems m ds w) (hl : InMails l ls w) :
    Calls Try.prog 8 #[wlv ep x y m l] w fun e w' => e = .returned (.bool true) ∧ Below w.heap.size w w' := by
  have HI := hidW (fun W' (hb : Below w.heap.size w W') => And.intro (hx.below hb (Nat.le_refl _)) (And.intro (hy.below hb (Nat.le_refl _)) (And.intro (ERd.since stableIK hd hb) (ERd.since stableIW hl hb))))
  obtain ⟨ax, cx, hvx, _⟩ := hx.len
  obtain ⟨ay, cy, hvy, _⟩ := hy.len
  obtain ⟨am, cm, hvm⟩ := erd_slice hd
  obtain ⟨al, cl, hvl⟩ := erd_slice hl
  subst hvx hvy hvm hvl
  clear hx hy hd hl
  have hB0 := one_below w (lwlb ep (.slice ax vs.length cx) (.slice ay ss.length cy) (.slice am ds.length cm) (.slice al ls.length cl))
  obtain ⟨c0, c1, c2, c3, c4⟩ := wcell5 w ep (.slice ax vs.length cx) (.slice ay ss.length cy) (.slice am ds.length cm) (.slice al ls.length cl) 57
  go_enter Try.func8, Try.ntmps8
  go_wp2_with fail
  generalize w.alloc (lwlb ep (.slice ax vs.length cx) (.slice ay ss.length cy) (.slice am ds.length cm) (.slice al ls.length cl)) = w0 at *
  refine (szWorld_any ep _ _ _ _ vs ss ds ls w0 (HI.out _ hB0).1 (HI.out _ hB0).2.1 (HI.out _ hB0).2.2.1 (HI.out _ hB0).2.2.2).mono ?_
  rintro e w1 ⟨z, rfl, hz, b1⟩
  have hB1 := more hB0 b1
  have c0 := cell_since c0 b1
  have c1 := cell_since c1 b1
  have c2 := cell_since c2 b1
  have c3 := cell_since c3 b1
  have c4 := cell_since c4 b1
  clear hB0 b1
  rcases hz with hz | ⟨hz, hS⟩
  · go_wp2
    go_ret
    exact ⟨rfl, hB1⟩
  have hz' : ¬ z < 0 := by omega
  have HS := hidW hS
  clear hS hz
  go_wp2_with fail
  refine (toWorld_any ep _ _ _ _ vs ss ds ls w1 (HI.out _ hB1).1 (HI.out _ hB1).2.1 (HI.out _ hB1).2.2.1 (HI.out _ hB1).2.2.2 HS.out).mono ?_
  rintro e w2 ⟨x2, y2, m2, l2, rfl, k2, b2⟩
  go_wp2_with fail
  refine (specWorldOk_any ep k2).mono ?_
  rintro e w3 ⟨rfl, b3⟩
  have hB3 := more (more hB1 b2) b3
  have c0 := cell_since c0 b2
  have c1 := cell_since c1 b2
  have c2 := cell_since c2 b2
  have c3 := cell_since c3 b2
  have c4 := cell_since c4 b2
  have c0 := cell_since c0 b3
  have c1 := cell_since c1 b3
  have c2 := cell_since c2 b3
  have c3 := cell_since c3 b3
  have c4 := cell_since c4 b3
  clear hB1 b2 b3 k2
  go_wp2_with fail
  refine (toWorld_any ep _ _ _ _ vs ss ds ls w3 (HI.out _ hB3).1 (HI.out _ hB3).2.1 (HI.out _ hB3).2.2.1 (HI.out _ hB3).2.2.2 HS.out).mono ?_
  rintro e w4 ⟨x4, y4, m4, l4, rfl, k4, b4⟩
  obtain ⟨⟨ax4, cx4, hx4⟩, ⟨ay4, cy4, hy4⟩, ⟨am4, cm4, hm4⟩, al4, cl4, hl4⟩ := k4.slices
  subst hx4 hy4 hm4 hl4
  have hb5 := one_below w4 (wlb ep (.slice ax4 vs.length cx4) (.slice ay4 ss.length cy4) (.slice am4 ds.length cm4) (.slice al4 ls.length cl4))
  obtain ⟨g0, g1, g2, g3, g4⟩ := wcell5 w4 ep (.slice ax4 vs.length cx4) (.slice ay4 ss.length cy4) (.slice am4 ds.length cm4) (.slice al4 ls.length cl4) 66
  have hB5 := more (more hB3 b4) hb5
  have K5 := hidW (k4.since hb5)
  have c0 := cell_since c0 b4
  have c1 := cell_since c1 b4
  have c2 := cell_since c2 b4
  have c3 := cell_since c3 b4
  have c4 := cell_since c4 b4
  have c0 := cell_since c0 hb5
  have c1 := cell_since c1 hb5
  have c2 := cell_since c2 hb5
  have c3 := cell_since c3 hb5
  have c4 := cell_since c4 hb5
  clear hB3 b4 hb5 k4
  go_wp2_with fail
  generalize w4.alloc (wlb ep (.slice ax4 vs.length cx4) (.slice ay4 ss.length cy4) (.slice am4 ds.length cm4) (.slice al4 ls.length cl4)) = w5 at *
  refine (worldOk_any ep K5.out).mono ?_
  rintro e w6 ⟨rfl, b6⟩
  have hB6 := more hB5 b6
  have K6 := hidW (K5.out.since b6)
  have c0 := cell_since c0 b6
  have c1 := cell_since c1 b6
  have c2 := cell_since c2 b6
  have c3 := cell_since c3 b6
  have c4 := cell_since c4 b6
  have g0 := cell_since g0 b6
  have g1 := cell_since g1 b6
  have g2 := cell_since g2 b6
  have g3 := cell_since g3 b6
  have g4 := cell_since g4 b6
  clear hB5 b6 K5
  have SO := hidW (show ∀ W', Below w6.heap.size w6 W' → (W'.cell? ⟨w.heap.size, 0, none⟩ = some (.int .i64 ep) ∧ W'.cell? ⟨w.heap.size, 1, none⟩ = some (.slice ax vs.length cx) ∧ W'.cell? ⟨w.heap.size, 2, none⟩ = some (.slice ay ss.length cy) ∧ W'.cell? ⟨w.heap.size, 3, none⟩ = some (.slice am ds.length cm) ∧ W'.cell? ⟨w.heap.size, 4, none⟩ = some (.slice al ls.length cl) ∧ W'.cell? ⟨w4.heap.size, 0, none⟩ = some (.int .i64 ep) ∧ W'.cell? ⟨w4.heap.size, 1, none⟩ = some (.slice ax4 vs.length cx4) ∧ W'.cell? ⟨w4.heap.size, 2, none⟩ = some (.slice ay4 ss.length cy4) ∧ W'.cell? ⟨w4.heap.size, 3, none⟩ = some (.slice am4 ds.length cm4) ∧ W'.cell? ⟨w4.heap.size, 4, none⟩ = some (.slice al4 ls.length cl4) ∧ Below w6.heap.size w6 W') from fun W' hb => ⟨cell_since c0 hb, cell_since c1 hb, cell_since c2 hb, cell_since c3 hb, cell_since c4 hb, cell_since g0 hb, cell_since g1 hb, cell_since g2 hb, cell_since g3 hb, cell_since g4 hb, hb⟩)
  clear c0 g0 c1 g1 c2 g2 c3 g3 c4 g4
  generalize worldB ep vs ss ds ls = ans
  go_upto_region 10 with fail
  go_region_held3 (fun W' => W'.cell? ⟨w.heap.size, 0, none⟩ = some (.int .i64 ep) ∧ W'.cell? ⟨w.heap.size, 1, none⟩ = some (.slice ax vs.length cx) ∧ W'.cell? ⟨w.heap.size, 2, none⟩ = some (.slice ay ss.length cy) ∧ W'.cell? ⟨w.heap.size, 3, none⟩ = some (.slice am ds.length cm) ∧ W'.cell? ⟨w.heap.size, 4, none⟩ = some (.slice al ls.length cl) ∧ W'.cell? ⟨w4.heap.size, 0, none⟩ = some (.int .i64 ep) ∧ W'.cell? ⟨w4.heap.size, 1, none⟩ = some (.slice ax4 vs.length cx4) ∧ W'.cell? ⟨w4.heap.size, 2, none⟩ = some (.slice ay4 ss.length cy4) ∧ W'.cell? ⟨w4.heap.size, 3, none⟩ = some (.slice am4 ds.length cm4) ∧ W'.cell? ⟨w4.heap.size, 4, none⟩ = some (.slice al4 ls.length cl4) ∧ Below w6.heap.size w6 W')
    (first | with_reducible exact SO.out _ (Below.refl _ _).drew | with_reducible exact SO.out _ h8 | with_reducible exact SO.out _ h7)
    (first | (go_at_call 33; refine (toWorld_any ep _ _ _ _ vs ss ds ls w6.drew (HI.out _ hB6.drew).1 (HI.out _ hB6.drew).2.1 (HI.out _ hB6.drew).2.2.1 (HI.out _ hB6.drew).2.2.2 HS.out).mono ?_; rintro e w7 ⟨x7, y7, m7, l7, rfl, k7, b7⟩; have h7 : Below w6.heap.size w6 w7 := (Below.refl _ _).drew.trans b7) | (go_at_call 35; refine (eqWorld_self ep (K6.out.since h7).x (K6.out.since h7).y (K6.out.since h7).m (K6.out.since h7).l k7.x k7.y k7.m k7.l).mono ?_; rintro e w8 ⟨rfl, b8⟩; have h8 := more h7 b8))
  all_goals
    have BF := hidW (more hB6 h8)
    go_wp2
    go_ret
    exact ⟨rfl, BF.out⟩
end Go.Proofs.Ythfgiabkafdbdaa
