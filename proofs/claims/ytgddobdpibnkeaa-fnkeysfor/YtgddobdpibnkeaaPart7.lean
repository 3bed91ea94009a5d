/- l3Done of the model. -/
import Derived.Test.YtgddobdpibnkeaaPart6
import Derived.Deep.CutRange
import Derived.Test.YtgddobdpibnkeaaPart1
import Derived.Laws.CopyOwn
import Derived.BigRegion
import Derived.RegionTactic
import Derived.ChangeAlike
import Derived.Test.YtgddobdpibnkeaaPart2
namespace Go.Proofs.Ytgddobdpibnkeaa
open Go.RowKit

set_option maxRecDepth 100000 in
set_option maxHeartbeats 8000000 in
theorem l3Done_any {B C : Nat} {x y : Value} {vs : List Int} {ss : List (Int × Int)} {w : World} (ep k m : Int) (hl : vs.length = 15) (hx : Ints B x vs w) (hy : Seats C y ss w) (hs : ss.length ≤ 50) :
    Calls Try.prog 129 #[svv ep x y, kv k m] w fun e w' => DnOut w (ss.length + 1) (serverB ep vs ss = true) e w' := by
  obtain ⟨ax, cx, hvx, _, _⟩ := hx.row
  obtain ⟨ay, cy, hvy, _, _⟩ := hy.row
  subst hvx hvy
  rw [hl] at hx ⊢
  have HX : Hid (∀ W, w.grownBy W none → Ints B (.slice ax 15 cx) vs W) := fun W hg => hx.since (below_none hg)
  have HY : Hid (∀ W, w.grownBy W none → Seats C (.slice ay ss.length cy) ss W) := fun W hg => hy.since (below_none hg)
  have H1 := ((((Hex.start w (ex := noRow) (noRow_on w)).alloc (svb ep (.slice ax 15 cx) (.slice ay ss.length cy))).alloc (opb k m)).alloc (svb 0 (.slice none 0 0) (.slice none 0 0))).alloc (rbD 0 (.slice none 0 0))
  simp only [World.size_alloc] at H1
  have HH1 := hidS H1
  obtain ⟨⟨p0, p1, p2⟩, _, _, _⟩ := box3 H1.b3
  have hs1 : w.heap.size ≤ ((((w.alloc (svb ep (.slice ax 15 cx) (.slice ay ss.length cy))).alloc (opb k m)).alloc (svb 0 (.slice none 0 0) (.slice none 0 0))).alloc (rbD 0 (.slice none 0 0))).heap.size := H1.bel.size
  clear hx hy H1
  generalize hn : ss.length = n at *
  have HN := hidS hn
  clear hn
  go_enter Try.func129, Try.ntmps129
  go_wp2_with fail
  generalize (((w.alloc (svb ep (.slice ax 15 cx) (.slice ay n cy))).alloc (opb k m)).alloc (svb 0 (.slice none 0 0) (.slice none 0 0))).alloc (rbD 0 (.slice none 0 0)) = w1 at *
  refine (l3Copy_any ep (HX.out _ HH1.out.bel) (HY.out _ HH1.out.bel) (by omega) (by rw [HN.out]; omega)).mono ?_
  rintro e w2 ⟨x2, y2, rfl, s2, b2⟩
  obtain ⟨a2, c2, hv2, _, _⟩ := s2.1.row
  obtain ⟨e2, d2, hw2, _, _⟩ := s2.2.1.row
  rw [hl] at hv2
  rw [HN.out] at hw2
  subst hv2 hw2
  have HH2 := hidS ((HH1.out.adds b2 [fI w1.heap.size (.slice a2 15 c2) vs, fS w1.heap.size (.slice e2 n d2) ss] (fun r hr => by
      simp only [List.mem_cons, List.not_mem_nil, or_false] at hr
      rcases hr with rfl | rfl
      · exact s2.1
      · exact s2.2.1) (fun r hr => by
      simp only [List.mem_cons, List.not_mem_nil, or_false] at hr
      rcases hr with rfl | rfl <;> exact Nat.le_refl _) (List.pairwise_cons.2 ⟨fun r hr => by
      simp only [List.mem_cons, List.not_mem_nil, or_false] at hr
      subst hr
      exact s2.2.2, List.pairwise_cons.2 ⟨(fun _ h => nomatch h), .nil⟩⟩)).alloc (svb ep (.slice a2 15 c2) (.slice e2 n d2)))
  simp only [List.cons_append, List.nil_append] at HH2
  clear p0 p1 p2 b2 s2 HH1
  obtain ⟨⟨o0, o1, o2⟩, of0, of1, of2⟩ := box3 HH2.out.b0
  obtain ⟨⟨r0, r1⟩, rf0, rf1⟩ := box2K HH2.out.b1
  obtain ⟨⟨t0, t1, t2⟩, tf0, tf1, tf2⟩ := box3 HH2.out.b2
  obtain ⟨⟨k0, k1⟩, _, _⟩ := box2K HH2.out.b3
  obtain ⟨⟨p0, p1, p2⟩, _, _, _⟩ := box3 HH2.out.b4

  go_wp2_with fail
  generalize w2.alloc (svb ep (.slice a2 15 c2) (.slice e2 n d2)) = w3 at *
  refine (l3Leaf_any ep m (HY.out _ HH2.out.bel)).mono ?_
  rintro e w4 ⟨rfl, b4⟩
  obtain ⟨lf, HLF⟩ : ∃ lf, Hid (leafV ss m = lf) := ⟨_, rfl⟩
  rw [HLF.out]
  have HH4 := hidS (HH2.out.since b4)
  clear b4 HH2
  clear o0 o1 o2 of0 of1 of2 r0 r1 rf0 rf1 t0 t1 t2 tf0 tf1 tf2 k0 k1 p0 p1 p2

  obtain ⟨⟨o0, o1, o2⟩, of0, of1, of2⟩ := box3 HH4.out.b0
  obtain ⟨⟨r0, r1⟩, rf0, rf1⟩ := box2K HH4.out.b1
  obtain ⟨⟨t0, t1, t2⟩, tf0, tf1, tf2⟩ := box3 HH4.out.b2
  obtain ⟨⟨k0, k1⟩, _, _⟩ := box2K HH4.out.b3
  obtain ⟨⟨p0, p1, p2⟩, _, _, _⟩ := box3 HH4.out.b4

  go_wp2_with fail
  refine (l3Form_eq k m _).mono ?_
  rintro e w5 ⟨rfl, b5⟩
  obtain ⟨fb, HFB⟩ : ∃ fb, Hid (formB k m = fb) := ⟨_, rfl⟩
  rw [HFB.out]
  have HH5 := hidS (HH4.out.since b5)
  clear b5 HH4
  clear o0 o1 o2 of0 of1 of2 r0 r1 rf0 rf1 t0 t1 t2 tf0 tf1 tf2 k0 k1 p0 p1 p2

  obtain ⟨⟨o0, o1, o2⟩, of0, of1, of2⟩ := box3 HH5.out.b0
  obtain ⟨⟨r0, r1⟩, rf0, rf1⟩ := box2K HH5.out.b1
  obtain ⟨⟨t0, t1, t2⟩, tf0, tf1, tf2⟩ := box3 HH5.out.b2
  obtain ⟨⟨k0, k1⟩, _, _⟩ := box2K HH5.out.b3
  obtain ⟨⟨p0, p1, p2⟩, _, _, _⟩ := box3 HH5.out.b4

  cases fb with
  | false =>
    have HE := hidS (((((HH5.out.s320 (.int .i64 ep)).s321 (.slice a2 15 c2)).s322 (.slice e2 n d2)).s210 (.int .i64 0)).s211 (.slice none 0 0))
    clear HH5
    go_wp2
    have HE' := HE.out
    generalize ((((w5.setCell ⟨w.heap.size + 1 + 1, 0, none⟩ (.int .i64 ep)).setCell ⟨w.heap.size + 1 + 1, 1, none⟩ (.slice a2 15 c2)).setCell ⟨w.heap.size + 1 + 1, 2, none⟩ (.slice e2 n d2)).setCell ⟨w.heap.size + 1 + 1 + 1, 0, none⟩ (.int .i64 0)).setCell ⟨w.heap.size + 1 + 1 + 1, 1, none⟩ (.slice none 0 0) = WF at HE' ⊢
    obtain ⟨⟨z0, z1, z2⟩, _, _, _⟩ := box3 HE'.b2
    obtain ⟨⟨z3, z4⟩, _, _⟩ := box2K HE'.b1
    have kI : Ints w1.heap.size (.slice a2 15 c2) vs WF := HE'.r0
    have kS : Seats w1.heap.size (.slice e2 n d2) ss WF := HE'.r1
    exact bodyPost_ret (v := .tuple #[svv ep (.slice a2 15 c2) (.slice e2 n d2), rvD 0 (.slice none 0 0), (.slice none 0 0), .int .i64 2]) (by simp [results, Try.results129, go_sem, z0, z1, z2, z3, z4]) rfl ⟨ep, _, _, vs, ss, 0, _, [], _, [], 2, rfl, by omega, kI.mono hs1, kS.mono hs1, by rw [HN.out]; omega, World.ownsRow_nil _ _ _ _, by simp, World.ownsRow_nil _ _ _ _, by simp, below_none HE'.bel, fun h => h⟩
  | true =>
    by_cases hk1 : k = 1
    · have hk1' : (k == 1) = true := by simpa using hk1
      have hk2' : (k == 2) = false := by rw [hk1]; decide
      have HM := hidS (form_join HFB.out hk1)
      clear hk1
      by_cases hlf : 0 < lf
      · have HE := hidS (((((HH5.out.s320 (.int .i64 ep)).s321 (.slice a2 15 c2)).s322 (.slice e2 n d2)).s210 (.int .i64 0)).s211 (.slice none 0 0))
        clear HH5
        go_wp2
        have HE' := HE.out
        generalize ((((w5.setCell ⟨w.heap.size + 1 + 1, 0, none⟩ (.int .i64 ep)).setCell ⟨w.heap.size + 1 + 1, 1, none⟩ (.slice a2 15 c2)).setCell ⟨w.heap.size + 1 + 1, 2, none⟩ (.slice e2 n d2)).setCell ⟨w.heap.size + 1 + 1 + 1, 0, none⟩ (.int .i64 0)).setCell ⟨w.heap.size + 1 + 1 + 1, 1, none⟩ (.slice none 0 0) = WF at HE' ⊢
        obtain ⟨⟨z0, z1, z2⟩, _, _, _⟩ := box3 HE'.b2
        obtain ⟨⟨z3, z4⟩, _, _⟩ := box2K HE'.b1
        have kI : Ints w1.heap.size (.slice a2 15 c2) vs WF := HE'.r0
        have kS : Seats w1.heap.size (.slice e2 n d2) ss WF := HE'.r1
        exact bodyPost_ret (v := .tuple #[svv ep (.slice a2 15 c2) (.slice e2 n d2), rvD 0 (.slice none 0 0), (.slice none 0 0), .int .i64 3]) (by simp [results, Try.results129, go_sem, z0, z1, z2, z3, z4]) rfl ⟨ep, _, _, vs, ss, 0, _, [], _, [], 3, rfl, by omega, kI.mono hs1, kS.mono hs1, by rw [HN.out]; omega, World.ownsRow_nil _ _ _ _, by simp, World.ownsRow_nil _ _ _ _, by simp, below_none HE'.bel, fun h => h⟩
      · go_wp2_with fail
        refine (l3Room_eq ep (HX.out _ HH5.out.bel)).mono ?_
        rintro e w6 ⟨rfl, b6⟩
        obtain ⟨rm, HRM⟩ : ∃ rm, Hid (roomB ep vs = rm) := ⟨_, rfl⟩
        rw [HRM.out]
        have HH6 := hidS (HH5.out.since b6)
        clear b6 HH5
        clear o0 o1 o2 of0 of1 of2 r0 r1 rf0 rf1 t0 t1 t2 tf0 tf1 tf2 k0 k1 p0 p1 p2
  
        obtain ⟨⟨o0, o1, o2⟩, of0, of1, of2⟩ := box3 HH6.out.b0
        obtain ⟨⟨r0, r1⟩, rf0, rf1⟩ := box2K HH6.out.b1
        obtain ⟨⟨t0, t1, t2⟩, tf0, tf1, tf2⟩ := box3 HH6.out.b2
        obtain ⟨⟨k0, k1⟩, _, _⟩ := box2K HH6.out.b3
        obtain ⟨⟨p0, p1, p2⟩, _, _, _⟩ := box3 HH6.out.b4
  
        cases rm with
        | false =>
          have HE := hidS (((((HH6.out.s320 (.int .i64 ep)).s321 (.slice a2 15 c2)).s322 (.slice e2 n d2)).s210 (.int .i64 0)).s211 (.slice none 0 0))
          clear HH6
          go_wp2
          have HE' := HE.out
          generalize ((((w6.setCell ⟨w.heap.size + 1 + 1, 0, none⟩ (.int .i64 ep)).setCell ⟨w.heap.size + 1 + 1, 1, none⟩ (.slice a2 15 c2)).setCell ⟨w.heap.size + 1 + 1, 2, none⟩ (.slice e2 n d2)).setCell ⟨w.heap.size + 1 + 1 + 1, 0, none⟩ (.int .i64 0)).setCell ⟨w.heap.size + 1 + 1 + 1, 1, none⟩ (.slice none 0 0) = WF at HE' ⊢
          obtain ⟨⟨z0, z1, z2⟩, _, _, _⟩ := box3 HE'.b2
          obtain ⟨⟨z3, z4⟩, _, _⟩ := box2K HE'.b1
          have kI : Ints w1.heap.size (.slice a2 15 c2) vs WF := HE'.r0
          have kS : Seats w1.heap.size (.slice e2 n d2) ss WF := HE'.r1
          exact bodyPost_ret (v := .tuple #[svv ep (.slice a2 15 c2) (.slice e2 n d2), rvD 0 (.slice none 0 0), (.slice none 0 0), .int .i64 5]) (by simp [results, Try.results129, go_sem, z0, z1, z2, z3, z4]) rfl ⟨ep, _, _, vs, ss, 0, _, [], _, [], 5, rfl, by omega, kI.mono hs1, kS.mono hs1, by rw [HN.out]; omega, World.ownsRow_nil _ _ _ _, by simp, World.ownsRow_nil _ _ _ _, by simp, below_none HE'.bel, fun h => h⟩
        | true =>
          have HH7 := hidS ((HH6.out.add (one_below w6 (.cells #[] 180)) (r := fW w6.heap.size (.slice (some ⟨w6.heap.size, 0, none⟩) 0 0) []) (litWd w6) (Nat.le_refl _)).add (one_below _ (.cells #[] 37)) (r := fK (w6.alloc (.cells #[] 180)).heap.size (.slice (some ⟨(w6.alloc (.cells #[] 180)).heap.size, 0, none⟩) 0 0) []) (litKd (w6.alloc (.cells #[] 180))) (Nat.le_refl _))
          simp only [World.size_alloc] at HH7
          have hs6 : w.heap.size ≤ w6.heap.size := HH6.out.bel.size
          have hs67 : w6.heap.size ≤ ((w6.alloc (.cells #[] 180)).alloc (.cells #[] 37)).heap.size := by simp only [World.size_alloc]; omega
          clear HH6
          clear o0 o1 o2 of0 of1 of2 r0 r1 rf0 rf1 t0 t1 t2 tf0 tf1 tf2 k0 k1 p0 p1 p2
  
          obtain ⟨⟨o0, o1, o2⟩, of0, of1, of2⟩ := box3 HH7.out.b0
          obtain ⟨⟨r0, r1⟩, rf0, rf1⟩ := box2K HH7.out.b1
          obtain ⟨⟨t0, t1, t2⟩, tf0, tf1, tf2⟩ := box3 HH7.out.b2
          obtain ⟨⟨k0, k1⟩, _, _⟩ := box2K HH7.out.b3
          obtain ⟨⟨p0, p1, p2⟩, _, _, _⟩ := box3 HH7.out.b4
          go_wp2_with fail
          generalize (w6.alloc (.cells #[] 180)).alloc (.cells #[] 37) = w7 at *
          refine (l3Join_eq ep m hl (show Ints w1.heap.size (.slice a2 15 c2) vs w7 from HH7.out.r2) (show Seats w1.heap.size (.slice e2 n d2) ss w7 from HH7.out.r3) (by rw [HN.out]; omega)).mono ?_
          rintro e w8 (⟨rfl, b8⟩ | ⟨j, y', v', ws', u', ks', hj8, hso, rfl, k8, y8, v8, hw8, u8, hu8, g8⟩)
          · have HH8 := hidS (HH7.out.since b8)
            clear HH7 b8
            clear o0 o1 o2 of0 of1 of2 r0 r1 rf0 rf1 t0 t1 t2 tf0 tf1 tf2 k0 k1 p0 p1 p2
    
            obtain ⟨⟨o0, o1, o2⟩, of0, of1, of2⟩ := box3 HH8.out.b0
            obtain ⟨⟨r0, r1⟩, rf0, rf1⟩ := box2K HH8.out.b1
            obtain ⟨⟨t0, t1, t2⟩, tf0, tf1, tf2⟩ := box3 HH8.out.b2
            obtain ⟨⟨k0, k1⟩, _, _⟩ := box2K HH8.out.b3
            obtain ⟨⟨p0, p1, p2⟩, _, _, _⟩ := box3 HH8.out.b4
    
            have HH9 := hidS (((HH8.out.s300 (.int .i64 ep)).s301 (.slice a2 15 c2)).s302 (.slice e2 n d2))
            clear HH8
            go_upto_region 21 with fail
            generalize ((w8.setCell ⟨w2.heap.size, 0, none⟩ (.int .i64 ep)).setCell ⟨w2.heap.size, 1, none⟩ (.slice a2 15 c2)).setCell ⟨w2.heap.size, 2, none⟩ (.slice e2 n d2) = w9 at *
            clear o0 o1 o2 of0 of1 of2 r0 r1 rf0 rf1 t0 t1 t2 tf0 tf1 tf2 k0 k1 p0 p1 p2
    
            obtain ⟨⟨o0, o1, o2⟩, of0, of1, of2⟩ := box3 HH9.out.b0
            obtain ⟨⟨r0, r1⟩, rf0, rf1⟩ := box2K HH9.out.b1
            obtain ⟨⟨t0, t1, t2⟩, tf0, tf1, tf2⟩ := box3 HH9.out.b2
            obtain ⟨⟨k0, k1⟩, _, _⟩ := box2K HH9.out.b3
            obtain ⟨⟨p0, p1, p2⟩, _, _, _⟩ := box3 HH9.out.b4
    
            go_wp2_with fail
            refine (l3Copy_any ep (HX.out _ HH9.out.bel) (HY.out _ HH9.out.bel) (by omega) (by rw [HN.out]; omega)).mono ?_
            rintro e w10 ⟨x9, y9, rfl, s9, b9⟩
            obtain ⟨a9, c9, hv9, _, _⟩ := s9.1.row
            obtain ⟨e9, d9, hw9, _, _⟩ := s9.2.1.row
            rw [hl] at hv9
            rw [HN.out] at hw9
            subst hv9 hw9
            have HH10 := hidS (HH9.out.adds b9 [fI w9.heap.size (.slice a9 15 c9) vs, fS w9.heap.size (.slice e9 n d9) ss] (fun r hr => by
                simp only [List.mem_cons, List.not_mem_nil, or_false] at hr
                rcases hr with rfl | rfl
                · exact s9.1
                · exact s9.2.1) (fun r hr => by
                simp only [List.mem_cons, List.not_mem_nil, or_false] at hr
                rcases hr with rfl | rfl <;> exact Nat.le_refl _) (List.pairwise_cons.2 ⟨fun r hr => by
                simp only [List.mem_cons, List.not_mem_nil, or_false] at hr
                subst hr
                exact s9.2.2, List.pairwise_cons.2 ⟨(fun _ h => nomatch h), .nil⟩⟩))
            simp only [List.cons_append, List.nil_append] at HH10
            have hs9 : w.heap.size ≤ w9.heap.size := HH9.out.bel.size
            clear b9 s9 HH9
            clear o0 o1 o2 of0 of1 of2 r0 r1 rf0 rf1 t0 t1 t2 tf0 tf1 tf2 k0 k1 p0 p1 p2
    
            obtain ⟨⟨o0, o1, o2⟩, of0, of1, of2⟩ := box3 HH10.out.b0
            obtain ⟨⟨r0, r1⟩, rf0, rf1⟩ := box2K HH10.out.b1
            obtain ⟨⟨t0, t1, t2⟩, tf0, tf1, tf2⟩ := box3 HH10.out.b2
            obtain ⟨⟨k0, k1⟩, _, _⟩ := box2K HH10.out.b3
            obtain ⟨⟨p0, p1, p2⟩, _, _, _⟩ := box3 HH10.out.b4
    
            have HE := hidS (((((HH10.out.s320 (.int .i64 ep)).s321 (.slice a9 15 c9)).s322 (.slice e9 n d9)).s210 (.int .i64 0)).s211 (.slice none 0 0))
            clear HH10
            go_wp2
            have HE' := HE.out
            generalize ((((w10.setCell ⟨w.heap.size + 1 + 1, 0, none⟩ (.int .i64 ep)).setCell ⟨w.heap.size + 1 + 1, 1, none⟩ (.slice a9 15 c9)).setCell ⟨w.heap.size + 1 + 1, 2, none⟩ (.slice e9 n d9)).setCell ⟨w.heap.size + 1 + 1 + 1, 0, none⟩ (.int .i64 0)).setCell ⟨w.heap.size + 1 + 1 + 1, 1, none⟩ (.slice none 0 0) = WF at HE' ⊢
            obtain ⟨⟨z0, z1, z2⟩, _, _, _⟩ := box3 HE'.b2
            obtain ⟨⟨z3, z4⟩, _, _⟩ := box2K HE'.b1
            have kI : Ints w9.heap.size (.slice a9 15 c9) vs WF := HE'.r0
            have kS : Seats w9.heap.size (.slice e9 n d9) ss WF := HE'.r1
            exact bodyPost_ret (v := .tuple #[svv ep (.slice a9 15 c9) (.slice e9 n d9), rvD 0 (.slice none 0 0), (.slice none 0 0), .int .i64 5]) (by simp [results, Try.results129, go_sem, z0, z1, z2, z3, z4]) rfl ⟨ep, _, _, vs, ss, 0, _, [], _, [], 5, rfl, by omega, kI.mono hs9, kS.mono hs9, by rw [HN.out]; omega, World.ownsRow_nil _ _ _ _, by simp, World.ownsRow_nil _ _ _ _, by simp, below_none HE'.bel, fun h => h⟩
          · have HOK0 := hidS (fun h : serverB ep vs ss = true => join_right h HRM.out HM.out (by rw [HLF.out]; omega) hj8 hso)
            obtain ⟨vs', HVS⟩ : ∃ V, Hid (raiseL vs (idx (path (8 + (j : Int)))) = V) := ⟨_, rfl⟩
            obtain ⟨ss', HSS⟩ : ∃ V, Hid (seatIn m (8 + (j : Int)) ss = V) := ⟨_, rfl⟩
            rw [HVS.out] at k8 HOK0
            rw [HSS.out] at y8 HOK0
            have HOK := hidS HOK0.out
            have hv' : vs'.length = 15 := by rw [← HVS.out, raiseL_len, hl]
            have hy8 : ss'.length ≤ ss.length + 1 := by rw [← HSS.out, seatIn_len]; exact Nat.le_refl _
            clear HOK0 HVS HSS hso hj8
            obtain ⟨ya, yc, hvy8, _, _⟩ := y8.row
            obtain ⟨va, vc, hvv8⟩ := wrapsF v8
            obtain ⟨ua, uc, hvu8, _, _⟩ := u8.row
            subst hvy8 hvv8 hvu8
            rw [HN.out] at hy8
            have HH8 := hidS (HH7.out.front2.more g8 (r' := fI w1.heap.size (.slice a2 15 c2) vs') k8 rfl rfl [fS w7.heap.size (.slice ya ss'.length yc) ss', fW w7.heap.size (.slice va ws'.length vc) ws', fK w7.heap.size (.slice ua ks'.length uc) ks'] (three_rows y8 v8 u8).1 (fun s hs => by
                simp only [List.mem_cons, List.not_mem_nil, or_false] at hs
                rcases hs with rfl | rfl | rfl <;> exact Nat.le_refl _) (three_rows y8 v8 u8).2)
            simp only [List.cons_append, List.nil_append] at HH8
            have hs7 : w.heap.size ≤ w7.heap.size := HH7.out.bel.size
            clear HH7 k8 y8 v8 u8 g8
            clear o0 o1 o2 of0 of1 of2 r0 r1 rf0 rf1 t0 t1 t2 tf0 tf1 tf2 k0 k1 p0 p1 p2
  
            obtain ⟨⟨o0, o1, o2⟩, of0, of1, of2⟩ := box3 HH8.out.b0
            obtain ⟨⟨r0, r1⟩, rf0, rf1⟩ := box2K HH8.out.b1
            obtain ⟨⟨t0, t1, t2⟩, tf0, tf1, tf2⟩ := box3 HH8.out.b2
            obtain ⟨⟨k0, k1⟩, _, _⟩ := box2K HH8.out.b3
            obtain ⟨⟨p0, p1, p2⟩, _, _, _⟩ := box3 HH8.out.b4
            have HF := hidS ((((HH8.out.s300 (.int .i64 ep)).s301 (.slice a2 15 c2)).s302 (.slice ya ss'.length yc)).s300 (.int .i64 (wrap64 (ep + 1))))
            clear HH8
            go_wp2
            generalize (((w8.setCell ⟨w2.heap.size, 0, none⟩ (.int .i64 ep)).setCell ⟨w2.heap.size, 1, none⟩ (.slice a2 15 c2)).setCell ⟨w2.heap.size, 2, none⟩ (.slice ya ss'.length yc)).setCell ⟨w2.heap.size, 0, none⟩ (.int .i64 (wrap64 (ep + 1))) = wf at *
            clear o0 o1 o2 of0 of1 of2 r0 r1 rf0 rf1 t0 t1 t2 tf0 tf1 tf2 k0 k1 p0 p1 p2
  
            obtain ⟨⟨o0, o1, o2⟩, of0, of1, of2⟩ := box3 HF.out.b0
            obtain ⟨⟨r0, r1⟩, rf0, rf1⟩ := box2K HF.out.b1
            obtain ⟨⟨t0, t1, t2⟩, tf0, tf1, tf2⟩ := box3 HF.out.b2
            obtain ⟨⟨k0, k1⟩, _, _⟩ := box2K HF.out.b3
            obtain ⟨⟨p0, p1, p2⟩, _, _, _⟩ := box3 HF.out.b4
  
            have hne2 : w2.heap.size ≠ w.heap.size + 1 + 1 := (List.pairwise_cons.1 HF.out.nod).1 _ (.tail _ (.head _))
            have hne3 : w2.heap.size ≠ w.heap.size + 1 + 1 + 1 := (List.pairwise_cons.1 HF.out.nod).1 _ (.head _)
            have L0 := And.intro o0 (And.intro o1 o2)
            have LA := three_set L0 hne2 hne2 hne2 (.int .i64 (wrap64 (ep + 1))) (.slice a2 15 c2) (.slice ya ss'.length yc)
            have LAB := two_set LA hne3 hne3 hne3 (.int .i64 (wrap64 (ep + 1))) (.slice va ws'.length vc)
            have LB := two_set L0 hne3 hne3 hne3 (.int .i64 (wrap64 (ep + 1))) (.slice va ws'.length vc)
            have LBA := three_set LB hne2 hne2 hne2 (.int .i64 (wrap64 (ep + 1))) (.slice a2 15 c2) (.slice ya ss'.length yc)
            have L0 := drew3 L0
            have LA := drew3 LA
            have LAB := drew3 LAB
            have LB := drew3 LB
            have LBA := drew3 LBA
            go_region_held3 (fun W => W.cell? ⟨w2.heap.size, 0, none⟩ = some (.int .i64 (wrap64 (ep + 1))) ∧ W.cell? ⟨w2.heap.size, 1, none⟩ = some (.slice a2 15 c2) ∧ W.cell? ⟨w2.heap.size, 2, none⟩ = some (.slice ya ss'.length yc))
              (first | with_reducible exact L0 | with_reducible exact LA | with_reducible exact LAB | with_reducible exact LB | with_reducible exact LBA)
              (fail)
            all_goals
              rename_i hHeld
              have HE := hidS ((((((HF.out.s320 (.int .i64 (wrap64 (ep + 1)))).s321 (.slice a2 15 c2)).s322 (.slice ya ss'.length yc)).s210 (.int .i64 (wrap64 (ep + 1)))).s211 (.slice va ws'.length vc)).drew)
              clear hHeld HF L0 LA LAB LB LBA
              clear o0 o1 o2 of0 of1 of2 r0 r1 rf0 rf1 t0 t1 t2 tf0 tf1 tf2 k0 k1 p0 p1 p2
              generalize (((((wf.setCell ⟨w.heap.size + 1 + 1, 0, none⟩ (.int .i64 (wrap64 (ep + 1)))).setCell ⟨w.heap.size + 1 + 1, 1, none⟩ (.slice a2 15 c2)).setCell ⟨w.heap.size + 1 + 1, 2, none⟩ (.slice ya ss'.length yc)).setCell ⟨w.heap.size + 1 + 1 + 1, 0, none⟩ (.int .i64 (wrap64 (ep + 1)))).setCell ⟨w.heap.size + 1 + 1 + 1, 1, none⟩ (.slice va ws'.length vc)).drew = WF at *
              go_wp2
              have HE' := HE.out
              obtain ⟨⟨z0, z1, z2⟩, _, _, _⟩ := box3 HE'.b2
              obtain ⟨⟨z3, z4⟩, _, _⟩ := box2K HE'.b1
              have kI : Ints w1.heap.size (.slice a2 15 c2) vs' WF := HE'.r3
              have kS : Seats w7.heap.size (.slice ya ss'.length yc) ss' WF := HE'.r0
              have kW : Wraps w7.heap.size (.slice va ws'.length vc) ws' WF := HE'.r1
              have kK : Keys w7.heap.size (.slice ua ks'.length uc) ks' WF := HE'.r2
              exact bodyPost_ret (v := .tuple #[svv (wrap64 (ep + 1)) (.slice a2 15 c2) (.slice ya ss'.length yc), rvD (wrap64 (ep + 1)) (.slice va ws'.length vc), (.slice ua ks'.length uc), .int .i64 0]) (by simp [results, Try.results129, go_sem, z0, z1, z2, z3, z4]) rfl ⟨_, _, _, vs', ss', _, _, ws', _, ks', 0, rfl, by omega, kI.mono hs1, kS.mono (by omega), by omega, kW.mono (by omega), by omega, kK.mono (by omega), by omega, below_none HE'.bel, HOK.out⟩
    · have hk1' : (k == 1) = false := by simpa using hk1
      clear hk1
      by_cases hk2 : k = 2
      · have hk2' : (k == 2) = true := by simpa using hk2
        clear hk2
        by_cases hlf : 0 < lf
        · have hd : decide (0 < lf) = true := decide_eq_true hlf
          go_wp2_with fail
          refine (l3Room_eq ep (HX.out _ HH5.out.bel)).mono ?_
          rintro e w6 ⟨rfl, b6⟩
          obtain ⟨rm, HRM⟩ : ∃ rm, Hid (roomB ep vs = rm) := ⟨_, rfl⟩
          rw [HRM.out]
          have HH6 := hidS (HH5.out.since b6)
          clear b6 HH5
          clear o0 o1 o2 of0 of1 of2 r0 r1 rf0 rf1 t0 t1 t2 tf0 tf1 tf2 k0 k1 p0 p1 p2
  
          obtain ⟨⟨o0, o1, o2⟩, of0, of1, of2⟩ := box3 HH6.out.b0
          obtain ⟨⟨r0, r1⟩, rf0, rf1⟩ := box2K HH6.out.b1
          obtain ⟨⟨t0, t1, t2⟩, tf0, tf1, tf2⟩ := box3 HH6.out.b2
          obtain ⟨⟨k0, k1⟩, _, _⟩ := box2K HH6.out.b3
          obtain ⟨⟨p0, p1, p2⟩, _, _, _⟩ := box3 HH6.out.b4
  
          cases rm with
          | false =>
            have HE := hidS (((((HH6.out.s320 (.int .i64 ep)).s321 (.slice a2 15 c2)).s322 (.slice e2 n d2)).s210 (.int .i64 0)).s211 (.slice none 0 0))
            clear HH6
            go_wp2
            have HE' := HE.out
            generalize ((((w6.setCell ⟨w.heap.size + 1 + 1, 0, none⟩ (.int .i64 ep)).setCell ⟨w.heap.size + 1 + 1, 1, none⟩ (.slice a2 15 c2)).setCell ⟨w.heap.size + 1 + 1, 2, none⟩ (.slice e2 n d2)).setCell ⟨w.heap.size + 1 + 1 + 1, 0, none⟩ (.int .i64 0)).setCell ⟨w.heap.size + 1 + 1 + 1, 1, none⟩ (.slice none 0 0) = WF at HE' ⊢
            obtain ⟨⟨z0, z1, z2⟩, _, _, _⟩ := box3 HE'.b2
            obtain ⟨⟨z3, z4⟩, _, _⟩ := box2K HE'.b1
            have kI : Ints w1.heap.size (.slice a2 15 c2) vs WF := HE'.r0
            have kS : Seats w1.heap.size (.slice e2 n d2) ss WF := HE'.r1
            exact bodyPost_ret (v := .tuple #[svv ep (.slice a2 15 c2) (.slice e2 n d2), rvD 0 (.slice none 0 0), (.slice none 0 0), .int .i64 5]) (by simp [results, Try.results129, go_sem, z0, z1, z2, z3, z4]) rfl ⟨ep, _, _, vs, ss, 0, _, [], _, [], 5, rfl, by omega, kI.mono hs1, kS.mono hs1, by rw [HN.out]; omega, World.ownsRow_nil _ _ _ _, by simp, World.ownsRow_nil _ _ _ _, by simp, below_none HE'.bel, fun h => h⟩
          | true =>
            have HH7 := hidS ((HH6.out.add (one_below w6 (.cells #[] 180)) (r := fW w6.heap.size (.slice (some ⟨w6.heap.size, 0, none⟩) 0 0) []) (litWd w6) (Nat.le_refl _)).add (one_below _ (.cells #[] 37)) (r := fK (w6.alloc (.cells #[] 180)).heap.size (.slice (some ⟨(w6.alloc (.cells #[] 180)).heap.size, 0, none⟩) 0 0) []) (litKd (w6.alloc (.cells #[] 180))) (Nat.le_refl _))
            simp only [World.size_alloc] at HH7
            have hs6 : w.heap.size ≤ w6.heap.size := HH6.out.bel.size
            have hs67 : w6.heap.size ≤ ((w6.alloc (.cells #[] 180)).alloc (.cells #[] 37)).heap.size := by simp only [World.size_alloc]; omega
            clear HH6
            clear o0 o1 o2 of0 of1 of2 r0 r1 rf0 rf1 t0 t1 t2 tf0 tf1 tf2 k0 k1 p0 p1 p2
  
            obtain ⟨⟨o0, o1, o2⟩, of0, of1, of2⟩ := box3 HH7.out.b0
            obtain ⟨⟨r0, r1⟩, rf0, rf1⟩ := box2K HH7.out.b1
            obtain ⟨⟨t0, t1, t2⟩, tf0, tf1, tf2⟩ := box3 HH7.out.b2
            obtain ⟨⟨k0, k1⟩, _, _⟩ := box2K HH7.out.b3
            obtain ⟨⟨p0, p1, p2⟩, _, _, _⟩ := box3 HH7.out.b4
            go_wp2_with fail
            generalize (w6.alloc (.cells #[] 180)).alloc (.cells #[] 37) = w7 at *
            refine (l3Leave_eq ep m hl (show Ints w1.heap.size (.slice a2 15 c2) vs w7 from HH7.out.r2) (show Seats w1.heap.size (.slice e2 n d2) ss w7 from HH7.out.r3) (by rw [HN.out]; omega)).mono ?_
            rintro e w8 ⟨y', v', ws', rfl, k8, y8, v8, hw8, g8⟩
            have HOK0 := hidS (fun h : serverB ep vs ss = true => leave_right (m := m) h HRM.out (by rw [HLF.out]; exact hlf))
            obtain ⟨vs', HVS⟩ : ∃ V, Hid (raiseL vs (idx (path (leafV ss m))) = V) := ⟨_, rfl⟩
            obtain ⟨ss', HSS⟩ : ∃ V, Hid ((ss.filter fun s => decide (s.1 ≠ m)) = V) := ⟨_, rfl⟩
            rw [HVS.out] at k8 HOK0
            rw [HSS.out] at y8 HOK0
            have HOK := hidS HOK0.out
            have hv' : vs'.length = 15 := by rw [← HVS.out, raiseL_len, hl]
            have hy8 : ss'.length ≤ ss.length := by rw [← HSS.out]; exact List.length_filter_le _ _
            clear HOK0 HVS HSS
            obtain ⟨ya, yc, hvy8, _, _⟩ := y8.row
            obtain ⟨va, vc, hvv8⟩ := wrapsF v8
            subst hvy8 hvv8
            rw [HN.out] at hy8
            have HH8 := hidS (HH7.out.front2.more g8 (r' := fI w1.heap.size (.slice a2 15 c2) vs') k8 rfl rfl [fS w7.heap.size (.slice ya ss'.length yc) ss', fW w7.heap.size (.slice va ws'.length vc) ws'] (two_rows y8 v8).1 (fun s hs => by
                simp only [List.mem_cons, List.not_mem_nil, or_false] at hs
                rcases hs with rfl | rfl <;> exact Nat.le_refl _) (two_rows y8 v8).2)
            simp only [List.cons_append, List.nil_append] at HH8
            have hs7 : w.heap.size ≤ w7.heap.size := HH7.out.bel.size
            clear HH7 k8 y8 v8 g8
            clear o0 o1 o2 of0 of1 of2 r0 r1 rf0 rf1 t0 t1 t2 tf0 tf1 tf2 k0 k1 p0 p1 p2
  
            obtain ⟨⟨o0, o1, o2⟩, of0, of1, of2⟩ := box3 HH8.out.b0
            obtain ⟨⟨r0, r1⟩, rf0, rf1⟩ := box2K HH8.out.b1
            obtain ⟨⟨t0, t1, t2⟩, tf0, tf1, tf2⟩ := box3 HH8.out.b2
            obtain ⟨⟨k0, k1⟩, _, _⟩ := box2K HH8.out.b3
            obtain ⟨⟨p0, p1, p2⟩, _, _, _⟩ := box3 HH8.out.b4
  
            have HF := hidS ((((HH8.out.s300 (.int .i64 ep)).s301 (.slice a2 15 c2)).s302 (.slice ya ss'.length yc)).s300 (.int .i64 (wrap64 (ep + 1))))
            clear HH8
            go_wp2
            generalize (((w8.setCell ⟨w2.heap.size, 0, none⟩ (.int .i64 ep)).setCell ⟨w2.heap.size, 1, none⟩ (.slice a2 15 c2)).setCell ⟨w2.heap.size, 2, none⟩ (.slice ya ss'.length yc)).setCell ⟨w2.heap.size, 0, none⟩ (.int .i64 (wrap64 (ep + 1))) = wf at *
            clear o0 o1 o2 of0 of1 of2 r0 r1 rf0 rf1 t0 t1 t2 tf0 tf1 tf2 k0 k1 p0 p1 p2
  
            obtain ⟨⟨o0, o1, o2⟩, of0, of1, of2⟩ := box3 HF.out.b0
            obtain ⟨⟨r0, r1⟩, rf0, rf1⟩ := box2K HF.out.b1
            obtain ⟨⟨t0, t1, t2⟩, tf0, tf1, tf2⟩ := box3 HF.out.b2
            obtain ⟨⟨k0, k1⟩, _, _⟩ := box2K HF.out.b3
            obtain ⟨⟨p0, p1, p2⟩, _, _, _⟩ := box3 HF.out.b4
  
            have hne2 : w2.heap.size ≠ w.heap.size + 1 + 1 := (List.pairwise_cons.1 HF.out.nod).1 _ (.tail _ (.head _))
            have hne3 : w2.heap.size ≠ w.heap.size + 1 + 1 + 1 := (List.pairwise_cons.1 HF.out.nod).1 _ (.head _)
            have L0 := And.intro o0 (And.intro o1 o2)
            have LA := three_set L0 hne2 hne2 hne2 (.int .i64 (wrap64 (ep + 1))) (.slice a2 15 c2) (.slice ya ss'.length yc)
            have LAB := two_set LA hne3 hne3 hne3 (.int .i64 (wrap64 (ep + 1))) (.slice va ws'.length vc)
            have LB := two_set L0 hne3 hne3 hne3 (.int .i64 (wrap64 (ep + 1))) (.slice va ws'.length vc)
            have LBA := three_set LB hne2 hne2 hne2 (.int .i64 (wrap64 (ep + 1))) (.slice a2 15 c2) (.slice ya ss'.length yc)
            have L0 := drew3 L0
            have LA := drew3 LA
            have LAB := drew3 LAB
            have LB := drew3 LB
            have LBA := drew3 LBA
            go_region_held3 (fun W => W.cell? ⟨w2.heap.size, 0, none⟩ = some (.int .i64 (wrap64 (ep + 1))) ∧ W.cell? ⟨w2.heap.size, 1, none⟩ = some (.slice a2 15 c2) ∧ W.cell? ⟨w2.heap.size, 2, none⟩ = some (.slice ya ss'.length yc))
              (first | with_reducible exact L0 | with_reducible exact LA | with_reducible exact LAB | with_reducible exact LB | with_reducible exact LBA)
              (fail)
            all_goals
              rename_i hHeld
              have HE := hidS ((((((HF.out.s320 (.int .i64 (wrap64 (ep + 1)))).s321 (.slice a2 15 c2)).s322 (.slice ya ss'.length yc)).s210 (.int .i64 (wrap64 (ep + 1)))).s211 (.slice va ws'.length vc)).drew)
              clear hHeld HF L0 LA LAB LB LBA
              clear o0 o1 o2 of0 of1 of2 r0 r1 rf0 rf1 t0 t1 t2 tf0 tf1 tf2 k0 k1 p0 p1 p2
              generalize (((((wf.setCell ⟨w.heap.size + 1 + 1, 0, none⟩ (.int .i64 (wrap64 (ep + 1)))).setCell ⟨w.heap.size + 1 + 1, 1, none⟩ (.slice a2 15 c2)).setCell ⟨w.heap.size + 1 + 1, 2, none⟩ (.slice ya ss'.length yc)).setCell ⟨w.heap.size + 1 + 1 + 1, 0, none⟩ (.int .i64 (wrap64 (ep + 1)))).setCell ⟨w.heap.size + 1 + 1 + 1, 1, none⟩ (.slice va ws'.length vc)).drew = WF at *
              go_wp2
              have HE' := HE.out
              obtain ⟨⟨z0, z1, z2⟩, _, _, _⟩ := box3 HE'.b2
              obtain ⟨⟨z3, z4⟩, _, _⟩ := box2K HE'.b1
              have kI : Ints w1.heap.size (.slice a2 15 c2) vs' WF := HE'.r2
              have kS : Seats w7.heap.size (.slice ya ss'.length yc) ss' WF := HE'.r0
              have kW : Wraps w7.heap.size (.slice va ws'.length vc) ws' WF := HE'.r1
              have kK : Keys (w6.heap.size + 1) (.slice (some ⟨w6.heap.size + 1, 0, none⟩) 0 0) [] WF := HE'.r3
              exact bodyPost_ret (v := .tuple #[svv (wrap64 (ep + 1)) (.slice a2 15 c2) (.slice ya ss'.length yc), rvD (wrap64 (ep + 1)) (.slice va ws'.length vc), (.slice (some ⟨w6.heap.size + 1, 0, none⟩) 0 0), .int .i64 0]) (by simp [results, Try.results129, go_sem, z0, z1, z2, z3, z4]) rfl ⟨_, _, _, vs', ss', _, _, ws', _, [], 0, rfl, by omega, kI.mono hs1, kS.mono (by omega), by omega, kW.mono (by omega), by omega, kK.mono (by omega), by simp, below_none HE'.bel, HOK.out⟩
        · have hd : decide (0 < lf) = false := decide_eq_false hlf
          have HE := hidS (((((HH5.out.s320 (.int .i64 ep)).s321 (.slice a2 15 c2)).s322 (.slice e2 n d2)).s210 (.int .i64 0)).s211 (.slice none 0 0))
          clear HH5
          go_wp2
          have HE' := HE.out
          generalize ((((w5.setCell ⟨w.heap.size + 1 + 1, 0, none⟩ (.int .i64 ep)).setCell ⟨w.heap.size + 1 + 1, 1, none⟩ (.slice a2 15 c2)).setCell ⟨w.heap.size + 1 + 1, 2, none⟩ (.slice e2 n d2)).setCell ⟨w.heap.size + 1 + 1 + 1, 0, none⟩ (.int .i64 0)).setCell ⟨w.heap.size + 1 + 1 + 1, 1, none⟩ (.slice none 0 0) = WF at HE' ⊢
          obtain ⟨⟨z0, z1, z2⟩, _, _, _⟩ := box3 HE'.b2
          obtain ⟨⟨z3, z4⟩, _, _⟩ := box2K HE'.b1
          have kI : Ints w1.heap.size (.slice a2 15 c2) vs WF := HE'.r0
          have kS : Seats w1.heap.size (.slice e2 n d2) ss WF := HE'.r1
          exact bodyPost_ret (v := .tuple #[svv ep (.slice a2 15 c2) (.slice e2 n d2), rvD 0 (.slice none 0 0), (.slice none 0 0), .int .i64 4]) (by simp [results, Try.results129, go_sem, z0, z1, z2, z3, z4]) rfl ⟨ep, _, _, vs, ss, 0, _, [], _, [], 4, rfl, by omega, kI.mono hs1, kS.mono hs1, by rw [HN.out]; omega, World.ownsRow_nil _ _ _ _, by simp, World.ownsRow_nil _ _ _ _, by simp, below_none HE'.bel, fun h => h⟩
      · have hk2' : (k == 2) = false := by simpa using hk2
        clear hk2
        go_wp2_with fail
        refine (l3Room_eq ep (HX.out _ HH5.out.bel)).mono ?_
        rintro e w6 ⟨rfl, b6⟩
        obtain ⟨rm, HRM⟩ : ∃ rm, Hid (roomB ep vs = rm) := ⟨_, rfl⟩
        rw [HRM.out]
        have HH6 := hidS (HH5.out.since b6)
        clear b6 HH5
        clear o0 o1 o2 of0 of1 of2 r0 r1 rf0 rf1 t0 t1 t2 tf0 tf1 tf2 k0 k1 p0 p1 p2

        obtain ⟨⟨o0, o1, o2⟩, of0, of1, of2⟩ := box3 HH6.out.b0
        obtain ⟨⟨r0, r1⟩, rf0, rf1⟩ := box2K HH6.out.b1
        obtain ⟨⟨t0, t1, t2⟩, tf0, tf1, tf2⟩ := box3 HH6.out.b2
        obtain ⟨⟨k0, k1⟩, _, _⟩ := box2K HH6.out.b3
        obtain ⟨⟨p0, p1, p2⟩, _, _, _⟩ := box3 HH6.out.b4

        cases rm with
        | false =>
          have HE := hidS (((((HH6.out.s320 (.int .i64 ep)).s321 (.slice a2 15 c2)).s322 (.slice e2 n d2)).s210 (.int .i64 0)).s211 (.slice none 0 0))
          clear HH6
          go_wp2
          have HE' := HE.out
          generalize ((((w6.setCell ⟨w.heap.size + 1 + 1, 0, none⟩ (.int .i64 ep)).setCell ⟨w.heap.size + 1 + 1, 1, none⟩ (.slice a2 15 c2)).setCell ⟨w.heap.size + 1 + 1, 2, none⟩ (.slice e2 n d2)).setCell ⟨w.heap.size + 1 + 1 + 1, 0, none⟩ (.int .i64 0)).setCell ⟨w.heap.size + 1 + 1 + 1, 1, none⟩ (.slice none 0 0) = WF at HE' ⊢
          obtain ⟨⟨z0, z1, z2⟩, _, _, _⟩ := box3 HE'.b2
          obtain ⟨⟨z3, z4⟩, _, _⟩ := box2K HE'.b1
          have kI : Ints w1.heap.size (.slice a2 15 c2) vs WF := HE'.r0
          have kS : Seats w1.heap.size (.slice e2 n d2) ss WF := HE'.r1
          exact bodyPost_ret (v := .tuple #[svv ep (.slice a2 15 c2) (.slice e2 n d2), rvD 0 (.slice none 0 0), (.slice none 0 0), .int .i64 5]) (by simp [results, Try.results129, go_sem, z0, z1, z2, z3, z4]) rfl ⟨ep, _, _, vs, ss, 0, _, [], _, [], 5, rfl, by omega, kI.mono hs1, kS.mono hs1, by rw [HN.out]; omega, World.ownsRow_nil _ _ _ _, by simp, World.ownsRow_nil _ _ _ _, by simp, below_none HE'.bel, fun h => h⟩
        | true =>
          have HH7 := hidS ((HH6.out.add (one_below w6 (.cells #[] 180)) (r := fW w6.heap.size (.slice (some ⟨w6.heap.size, 0, none⟩) 0 0) []) (litWd w6) (Nat.le_refl _)).add (one_below _ (.cells #[] 37)) (r := fK (w6.alloc (.cells #[] 180)).heap.size (.slice (some ⟨(w6.alloc (.cells #[] 180)).heap.size, 0, none⟩) 0 0) []) (litKd (w6.alloc (.cells #[] 180))) (Nat.le_refl _))
          simp only [World.size_alloc] at HH7
          have hs6 : w.heap.size ≤ w6.heap.size := HH6.out.bel.size
          have hs67 : w6.heap.size ≤ ((w6.alloc (.cells #[] 180)).alloc (.cells #[] 37)).heap.size := by simp only [World.size_alloc]; omega
          clear HH6
          clear o0 o1 o2 of0 of1 of2 r0 r1 rf0 rf1 t0 t1 t2 tf0 tf1 tf2 k0 k1 p0 p1 p2

          obtain ⟨⟨o0, o1, o2⟩, of0, of1, of2⟩ := box3 HH7.out.b0
          obtain ⟨⟨r0, r1⟩, rf0, rf1⟩ := box2K HH7.out.b1
          obtain ⟨⟨t0, t1, t2⟩, tf0, tf1, tf2⟩ := box3 HH7.out.b2
          obtain ⟨⟨k0, k1⟩, _, _⟩ := box2K HH7.out.b3
          obtain ⟨⟨p0, p1, p2⟩, _, _, _⟩ := box3 HH7.out.b4
          go_wp2_with fail
          generalize (w6.alloc (.cells #[] 180)).alloc (.cells #[] 37) = w7 at *
          have hr := l3Raise_eq (x := (.slice a2 15 c2)) ep e2 n d2 0 (by omega) hl (show Ints w1.heap.size (.slice a2 15 c2) vs w7 from HH7.out.r2)
          rw [show (((0 : Nat) : Int) + 1) = 1 from rfl] at hr
          refine hr.mono ?_
          rintro e w8 ⟨rfl, k8, g8⟩
          have HOK0 := hidS (fun h : serverB ep vs ss = true => refresh_right h HRM.out)
          obtain ⟨z8, HZ8⟩ : ∃ z, Hid (wrap64 (vAt vs 0 + 1) = z) := ⟨_, rfl⟩
          rw [HZ8.out] at k8 HOK0
          have HOK := hidS HOK0.out
          clear HOK0 HZ8
          have HH8 := hidS (HH7.out.front2.more g8 (r' := fI w1.heap.size (.slice a2 15 c2) (vs.set 0 z8)) k8 rfl rfl [] (fun _ h => nomatch h) (fun _ h => nomatch h) .nil)
          simp only [List.nil_append] at HH8
          have hv8 : (vs.set 0 z8).length = 15 := by rw [List.length_set]; exact hl
          have hs7 : w6.heap.size ≤ w8.heap.size := Nat.le_trans hs67 g8.size
          clear HH7 k8 g8 hr
          clear o0 o1 o2 of0 of1 of2 r0 r1 rf0 rf1 t0 t1 t2 tf0 tf1 tf2 k0 k1 p0 p1 p2

          obtain ⟨⟨o0, o1, o2⟩, of0, of1, of2⟩ := box3 HH8.out.b0
          obtain ⟨⟨r0, r1⟩, rf0, rf1⟩ := box2K HH8.out.b1
          obtain ⟨⟨t0, t1, t2⟩, tf0, tf1, tf2⟩ := box3 HH8.out.b2
          obtain ⟨⟨k0, k1⟩, _, _⟩ := box2K HH8.out.b3
          obtain ⟨⟨p0, p1, p2⟩, _, _, _⟩ := box3 HH8.out.b4

          have HH9 := hidS (((HH8.out.s300 (.int .i64 ep)).s301 (.slice a2 15 c2)).s302 (.slice e2 n d2))
          have hs9 : w6.heap.size ≤ (((w8.setCell ⟨w2.heap.size, 0, none⟩ (.int .i64 ep)).setCell ⟨w2.heap.size, 1, none⟩ (.slice a2 15 c2)).setCell ⟨w2.heap.size, 2, none⟩ (.slice e2 n d2)).heap.size := by simp only [World.setCell, Array.size_modify]; exact hs7
          clear HH8
          go_wp2_with fail
          generalize ((w8.setCell ⟨w2.heap.size, 0, none⟩ (.int .i64 ep)).setCell ⟨w2.heap.size, 1, none⟩ (.slice a2 15 c2)).setCell ⟨w2.heap.size, 2, none⟩ (.slice e2 n d2) = w9 at *
          clear o0 o1 o2 of0 of1 of2 r0 r1 rf0 rf1 t0 t1 t2 tf0 tf1 tf2 k0 k1 p0 p1 p2

          obtain ⟨⟨o0, o1, o2⟩, of0, of1, of2⟩ := box3 HH9.out.b0
          obtain ⟨⟨r0, r1⟩, rf0, rf1⟩ := box2K HH9.out.b1
          obtain ⟨⟨t0, t1, t2⟩, tf0, tf1, tf2⟩ := box3 HH9.out.b2
          obtain ⟨⟨k0, k1⟩, _, _⟩ := box2K HH9.out.b3
          obtain ⟨⟨p0, p1, p2⟩, _, _, _⟩ := box3 HH9.out.b4

          refine (l3Down_any ep 1 (by omega) hv8 (show Ints w1.heap.size (.slice a2 15 c2) (vs.set 0 z8) w9 from HH9.out.r0) (show Seats w1.heap.size (.slice e2 n d2) ss w9 from HH9.out.r3) (show Wraps w6.heap.size (.slice (some ⟨w6.heap.size, 0, none⟩) 0 0) [] w9 from HH9.out.r2) hs9 (by simp)).mono ?_
          rintro e w10 ⟨v', ws', rfl, v10, hw10, g10⟩
          obtain ⟨va, vc, hvv⟩ := wrapsF v10
          subst hvv
          have HH10 := hidS (HH9.out.turn2 (r' := fW w6.heap.size (.slice va ws'.length vc) ws') g10 v10 rfl ⟨fun s hs => by
              simp only [List.mem_cons, List.not_mem_nil, or_false] at hs
              rcases hs with rfl | rfl | rfl <;> simp, fun p hp => by
              simp only [List.mem_cons, List.not_mem_nil, or_false] at hp
              rcases hp with rfl | rfl | rfl | rfl | rfl <;> simp [objType]⟩)
          have hw10' : ws'.length ≤ 2 := by simpa using hw10
          clear HH9 v10 g10 hw10
          clear o0 o1 o2 of0 of1 of2 r0 r1 rf0 rf1 t0 t1 t2 tf0 tf1 tf2 k0 k1 p0 p1 p2

          obtain ⟨⟨o0, o1, o2⟩, of0, of1, of2⟩ := box3 HH10.out.b0
          obtain ⟨⟨r0, r1⟩, rf0, rf1⟩ := box2K HH10.out.b1
          obtain ⟨⟨t0, t1, t2⟩, tf0, tf1, tf2⟩ := box3 HH10.out.b2
          obtain ⟨⟨k0, k1⟩, _, _⟩ := box2K HH10.out.b3
          obtain ⟨⟨p0, p1, p2⟩, _, _, _⟩ := box3 HH10.out.b4

          have HF := hidS (HH10.out.s300 (.int .i64 (wrap64 (ep + 1))))
          clear HH10
          go_wp2
          generalize w10.setCell ⟨w2.heap.size, 0, none⟩ (.int .i64 (wrap64 (ep + 1))) = wf at *
          clear o0 o1 o2 of0 of1 of2 r0 r1 rf0 rf1 t0 t1 t2 tf0 tf1 tf2 k0 k1 p0 p1 p2

          obtain ⟨⟨o0, o1, o2⟩, of0, of1, of2⟩ := box3 HF.out.b0
          obtain ⟨⟨r0, r1⟩, rf0, rf1⟩ := box2K HF.out.b1
          obtain ⟨⟨t0, t1, t2⟩, tf0, tf1, tf2⟩ := box3 HF.out.b2
          obtain ⟨⟨k0, k1⟩, _, _⟩ := box2K HF.out.b3
          obtain ⟨⟨p0, p1, p2⟩, _, _, _⟩ := box3 HF.out.b4

          have hne2 : w2.heap.size ≠ w.heap.size + 1 + 1 := (List.pairwise_cons.1 HF.out.nod).1 _ (.tail _ (.head _))
          have hne3 : w2.heap.size ≠ w.heap.size + 1 + 1 + 1 := (List.pairwise_cons.1 HF.out.nod).1 _ (.head _)
          have L0 := And.intro o0 (And.intro o1 o2)
          have LA := three_set L0 hne2 hne2 hne2 (.int .i64 (wrap64 (ep + 1))) (.slice a2 15 c2) (.slice e2 n d2)
          have LAB := two_set LA hne3 hne3 hne3 (.int .i64 (wrap64 (ep + 1))) (.slice va ws'.length vc)
          have LB := two_set L0 hne3 hne3 hne3 (.int .i64 (wrap64 (ep + 1))) (.slice va ws'.length vc)
          have LBA := three_set LB hne2 hne2 hne2 (.int .i64 (wrap64 (ep + 1))) (.slice a2 15 c2) (.slice e2 n d2)
          have L0 := drew3 L0
          have LA := drew3 LA
          have LAB := drew3 LAB
          have LB := drew3 LB
          have LBA := drew3 LBA
          go_region_held3 (fun W => W.cell? ⟨w2.heap.size, 0, none⟩ = some (.int .i64 (wrap64 (ep + 1))) ∧ W.cell? ⟨w2.heap.size, 1, none⟩ = some (.slice a2 15 c2) ∧ W.cell? ⟨w2.heap.size, 2, none⟩ = some (.slice e2 n d2))
            (first | with_reducible exact L0 | with_reducible exact LA | with_reducible exact LAB | with_reducible exact LB | with_reducible exact LBA)
            (fail)
          all_goals
            rename_i hHeld
            have HE := hidS ((((((HF.out.s320 (.int .i64 (wrap64 (ep + 1)))).s321 (.slice a2 15 c2)).s322 (.slice e2 n d2)).s210 (.int .i64 (wrap64 (ep + 1)))).s211 (.slice va ws'.length vc)).drew)
            clear hHeld HF L0 LA LAB LB LBA
            clear o0 o1 o2 of0 of1 of2 r0 r1 rf0 rf1 t0 t1 t2 tf0 tf1 tf2 k0 k1 p0 p1 p2
            generalize (((((wf.setCell ⟨w.heap.size + 1 + 1, 0, none⟩ (.int .i64 (wrap64 (ep + 1)))).setCell ⟨w.heap.size + 1 + 1, 1, none⟩ (.slice a2 15 c2)).setCell ⟨w.heap.size + 1 + 1, 2, none⟩ (.slice e2 n d2)).setCell ⟨w.heap.size + 1 + 1 + 1, 0, none⟩ (.int .i64 (wrap64 (ep + 1)))).setCell ⟨w.heap.size + 1 + 1 + 1, 1, none⟩ (.slice va ws'.length vc)).drew = WF at *
            go_wp2
            have HE' := HE.out
            obtain ⟨⟨z0, z1, z2⟩, _, _, _⟩ := box3 HE'.b2
            obtain ⟨⟨z3, z4⟩, _, _⟩ := box2K HE'.b1
            have kI : Ints w1.heap.size (.slice a2 15 c2) (vs.set 0 z8) WF := HE'.r0
            have kS : Seats w1.heap.size (.slice e2 n d2) ss WF := HE'.r3
            have kW : Wraps w6.heap.size (.slice va ws'.length vc) ws' WF := HE'.r2
            have kK : Keys (w6.heap.size + 1) (.slice (some ⟨w6.heap.size + 1, 0, none⟩) 0 0) [] WF := HE'.r1
            exact bodyPost_ret (v := .tuple #[svv (wrap64 (ep + 1)) (.slice a2 15 c2) (.slice e2 n d2), rvD (wrap64 (ep + 1)) (.slice va ws'.length vc), (.slice (some ⟨w6.heap.size + 1, 0, none⟩) 0 0), .int .i64 0]) (by simp [results, Try.results129, go_sem, z0, z1, z2, z3, z4]) rfl ⟨_, _, _, (vs.set 0 z8), ss, _, _, ws', _, [], 0, rfl, by omega, kI.mono hs1, kS.mono (by omega), by rw [HN.out]; omega, kW.mono (by omega), by omega, kK.mono (by omega), by simp, below_none HE'.bel, HOK.out⟩
end Go.Proofs.Ytgddobdpibnkeaa
/- Done of the model: it answers, in new memory, whatever it is given. -/
namespace Go.Proofs.Ytgddobdpibnkeaa
open Go.RowKit

theorem serverB_few {ep : Int} {vs : List Int} {ss : List (Int × Int)} (h : serverB ep vs ss = true) : ss.length ≤ 8 := by
  unfold serverB seatsB at h
  simp only [Bool.and_eq_true, decide_eq_true_eq] at h
  exact h.2.2.1
theorem four_rows {W : World} {Z A D E : Nat} {x y v u : Value} {xs : List Int} {ss : List (Int × Int)} {ws : List W4} {ks : List (Int × Int)} (h0 : Ints Z x xs W) (h1 : Seats A y ss W) (h2 : Wraps D v ws W) (h3 : Keys E u ks W) :
    (∀ s, s ∈ [fI Z x xs, fS A y ss, fW D v ws, fK E u ks] → s.on W) ∧ [fI Z x xs, fS A y ss, fW D v ws, fK E u ks].Pairwise fun r s => ∀ k, r.v.ownBlock = some k → s.v.ownBlock ≠ some k := by
  refine ⟨fun s hs => ?_, List.pairwise_cons.2 ⟨fun s hs => ?_, (three_rows h1 h2 h3).2⟩⟩
  · rcases List.mem_cons.1 hs with rfl | hs
    · exact h0
    · exact (three_rows h1 h2 h3).1 s hs
  · simp only [List.mem_cons, List.not_mem_nil, or_false] at hs
    rcases hs with rfl | rfl | rfl
    · exact rows_ne (r := fI Z x xs) (s := fS A y ss) h0 h1 (show (2 : TypeId) ≠ 88 by decide)
    · exact rows_ne (r := fI Z x xs) (s := fW D v ws) h0 h2 (show (2 : TypeId) ≠ 180 by decide)
    · exact rows_ne (r := fI Z x xs) (s := fK E u ks) h0 h3 (show (2 : TypeId) ≠ 37 by decide)

set_option maxRecDepth 100000 in
set_option maxHeartbeats 8000000 in
theorem specDone_any {B C : Nat} {x y : Value} {vs : List Int} {ss : List (Int × Int)} {w : World} (ep k m : Int) (hx : Ints B x vs w) (hy : Seats C y ss w) :
    Calls Try.prog 85 #[svv ep x y, kv k m] w fun e w' => DnOut w 9 (serverB ep vs ss = true) e w' := by
  have HX : Hid (∀ W, w.grownBy W none → Ints B x vs W) := fun W hg => hx.since (below_none hg)
  have HY : Hid (∀ W, w.grownBy W none → Seats C y ss W) := fun W hg => hy.since (below_none hg)
  have H1 := ((((Hex.start w (ex := noRow) (noRow_on w)).alloc (svb ep x y)).alloc (opb k m)).alloc (svb 0 (.slice none 0 0) (.slice none 0 0))).alloc (rbD 0 (.slice none 0 0))
  simp only [World.size_alloc] at H1
  have HH1 := hidS H1
  obtain ⟨⟨p0, p1, p2⟩, _, _, _⟩ := box3 H1.b3
  clear hx hy H1
  go_enter Try.func85, Try.ntmps85
  go_wp2_with fail
  generalize (((w.alloc (svb ep x y)).alloc (opb k m)).alloc (svb 0 (.slice none 0 0) (.slice none 0 0))).alloc (rbD 0 (.slice none 0 0)) = w1 at *
  refine (specServerOk_any ep (HX.out _ HH1.out.bel) (HY.out _ HH1.out.bel)).mono ?_
  rintro e w2 ⟨rfl, b2⟩
  have HH2 := hidS (HH1.out.since b2)
  clear HH1 b2 p0 p1 p2
  obtain ⟨⟨r0, r1⟩, rf0, rf1⟩ := box2K HH2.out.b0
  obtain ⟨⟨t0, t1, t2⟩, tf0, tf1, tf2⟩ := box3 HH2.out.b1
  obtain ⟨⟨k0, k1⟩, _, _⟩ := box2K HH2.out.b2
  obtain ⟨⟨p0, p1, p2⟩, _, _, _⟩ := box3 HH2.out.b3

  cases hok : serverB ep vs ss with
  | false =>
    have HE := hidS (((((HH2.out.s310 (.int .i64 0)).s311 (.slice none 0 0)).s312 (.slice none 0 0)).s200 (.int .i64 0)).s201 (.slice none 0 0))
    clear HH2
    go_wp2
    have HE' := HE.out
    generalize ((((w2.setCell ⟨w.heap.size + 1 + 1, 0, none⟩ (.int .i64 0)).setCell ⟨w.heap.size + 1 + 1, 1, none⟩ (.slice none 0 0)).setCell ⟨w.heap.size + 1 + 1, 2, none⟩ (.slice none 0 0)).setCell ⟨w.heap.size + 1 + 1 + 1, 0, none⟩ (.int .i64 0)).setCell ⟨w.heap.size + 1 + 1 + 1, 1, none⟩ (.slice none 0 0) = WF at HE' ⊢
    obtain ⟨⟨z0, z1, z2⟩, _, _, _⟩ := box3 HE'.b1
    obtain ⟨⟨z3, z4⟩, _, _⟩ := box2K HE'.b0
    exact bodyPost_ret (v := .tuple #[svv 0 (.slice none 0 0) (.slice none 0 0), rvD 0 (.slice none 0 0), (.slice none 0 0), .int .i64 1]) (by simp [results, Try.results85, go_sem, z0, z1, z2, z3, z4]) rfl ⟨0, _, _, [], [], 0, _, [], _, [], 1, rfl, by simp, World.ownsRow_nil _ _ _ _, World.ownsRow_nil _ _ _ _, by simp, World.ownsRow_nil _ _ _ _, by simp, World.ownsRow_nil _ _ _ _, by simp, below_none HE'.bel, fun h => by rw [hok] at h; cases h⟩
  | true =>
    have h8 := serverB_few hok
    have h15 := serverB_len hok
    have HOK := hidS hok
    clear hok
    go_wp2_with fail
    refine (l3Done_any ep k m h15 (HX.out _ HH2.out.bel) (HY.out _ HH2.out.bel) (by omega)).mono ?_
    rintro e w3 ⟨ep', x', y', vs', ss', re, v', ws', u', ks', code, rfl, l1, i3, s3, l2, v3, l3, u3, l4, b3, hok3⟩
    have HOK3 := hidS (hok3 HOK.out)
    clear hok3 HOK
    obtain ⟨xa, xc, hv1, _, _⟩ := i3.row
    obtain ⟨ya, yc, hv2, _, _⟩ := s3.row
    obtain ⟨va, vc, hv3⟩ := wrapsF v3
    obtain ⟨ua, uc, hv4, _, _⟩ := u3.row
    subst hv1 hv2 hv3 hv4
    have HH3 := hidS (HH2.out.adds b3 [fI w2.heap.size (.slice xa vs'.length xc) vs', fS w2.heap.size (.slice ya ss'.length yc) ss', fW w2.heap.size (.slice va ws'.length vc) ws', fK w2.heap.size (.slice ua ks'.length uc) ks'] (four_rows i3 s3 v3 u3).1 (fun s hs => by
        simp only [List.mem_cons, List.not_mem_nil, or_false] at hs
        rcases hs with rfl | rfl | rfl | rfl <;> exact Nat.le_refl _) (four_rows i3 s3 v3 u3).2)
    simp only [List.cons_append, List.nil_append] at HH3
    have hs2 : w.heap.size ≤ w2.heap.size := HH2.out.bel.size
    clear i3 s3 v3 u3 b3 HH2
    clear r0 r1 rf0 rf1 t0 t1 t2 tf0 tf1 tf2 k0 k1 p0 p1 p2

    obtain ⟨⟨r0, r1⟩, rf0, rf1⟩ := box2K HH3.out.b0
    obtain ⟨⟨t0, t1, t2⟩, tf0, tf1, tf2⟩ := box3 HH3.out.b1
    obtain ⟨⟨k0, k1⟩, _, _⟩ := box2K HH3.out.b2
    obtain ⟨⟨p0, p1, p2⟩, _, _, _⟩ := box3 HH3.out.b3
    have HE := hidS (((((HH3.out.s310 (.int .i64 ep')).s311 (.slice xa vs'.length xc)).s312 (.slice ya ss'.length yc)).s200 (.int .i64 re)).s201 (.slice va ws'.length vc))
    clear HH3
    go_wp2
    have HE' := HE.out
    generalize ((((w3.setCell ⟨w.heap.size + 1 + 1, 0, none⟩ (.int .i64 ep')).setCell ⟨w.heap.size + 1 + 1, 1, none⟩ (.slice xa vs'.length xc)).setCell ⟨w.heap.size + 1 + 1, 2, none⟩ (.slice ya ss'.length yc)).setCell ⟨w.heap.size + 1 + 1 + 1, 0, none⟩ (.int .i64 re)).setCell ⟨w.heap.size + 1 + 1 + 1, 1, none⟩ (.slice va ws'.length vc) = WF at HE' ⊢
    obtain ⟨⟨z0, z1, z2⟩, _, _, _⟩ := box3 HE'.b1
    obtain ⟨⟨z3, z4⟩, _, _⟩ := box2K HE'.b0
    have kI : Ints w2.heap.size (.slice xa vs'.length xc) vs' WF := HE'.r0
    have kS : Seats w2.heap.size (.slice ya ss'.length yc) ss' WF := HE'.r1
    have kW : Wraps w2.heap.size (.slice va ws'.length vc) ws' WF := HE'.r2
    have kK : Keys w2.heap.size (.slice ua ks'.length uc) ks' WF := HE'.r3
    exact bodyPost_ret (v := .tuple #[svv ep' (.slice xa vs'.length xc) (.slice ya ss'.length yc), rvD re (.slice va ws'.length vc), .slice ua ks'.length uc, .int .i64 code]) (by simp [results, Try.results85, go_sem, z0, z1, z2, z3, z4]) rfl ⟨_, _, _, vs', ss', _, _, ws', _, ks', code, rfl, l1, kI.mono hs2, kS.mono hs2, by omega, kW.mono hs2, l3, kK.mono hs2, l4, below_none HE'.bel, fun _ => HOK3.out⟩
end Go.Proofs.Ytgddobdpibnkeaa
/- A number fifteen times: math/bits.Mul and slices.Repeat where ServerNew calls them. -/
namespace Go.Proofs.Ytgddobdpibnkeaa
open Go.RowKit

theorem hidOf3 {p : Prop} (h : p) : Hid p := h
def rowV (n : Nat) : List Value := List.replicate n (.int .i64 1) ++ List.replicate (15 - n) (.int .i64 0)
theorem rowV_cell {W : World} {g n j : Nat} (h : W.heap[g]? = some (.cells (rowV n).toArray 2 (0, 0))) (hj : j < n) : W.cell? ⟨g, j, none⟩ = some (.int .i64 1) := by
  have : (rowV n)[j]? = some (.int .i64 1) := by
    unfold rowV
    rw [List.getElem?_append_left (by simpa using hj)]
    simp [hj]
  simp [World.cell?, h, this]
theorem ones_cells {W : World} {g n k : Nat} (h : W.heap[g]? = some (.cells (rowV n).toArray 2 (0, 0))) (hk : k ≤ n) : ∀ j v, (List.replicate k (Value.int .i64 1))[j]? = some v → W.cell? ((⟨g, 0, none⟩ : Addr).add j) = some v := by
  intro j v hv
  have hj : j < k := by
    have := (List.getElem?_eq_some_iff.1 hv).1
    simpa using this
  have e : (⟨g, 0, none⟩ : Addr).add j = ⟨g, j, none⟩ := by rw [Addr.add_mid, Nat.zero_add]
  rw [e, rowV_cell h (by omega)]
  simp [hj] at hv
  rw [hv]
theorem made_row {W : World} {B g : Nat} (h : W.ownsRow B 2 1 (.slice (some ⟨g, 0, none⟩) 15 15) 15 (madeCells (Value.int .i64 0).cells (15 * 1)).toList) : W.heap[g]? = some (.cells (rowV 0).toArray 2 (0, 0)) := by
  obtain ⟨_, h2⟩ := h
  rcases h2 with ⟨e, _⟩ | ⟨g', cap, cur, e, hb, hg, h1, h3, h4, h5⟩
  · cases e
  · injection e with e e1 e2
    injection e with e
    injection e with e
    subst e e2
    rw [hg]
    have hl : cur.toList = rowV 0 := by
      rw [List.take_of_length_le (by simp; omega)] at h5
      rw [h5]
      show (madeCells #[.int .i64 0] 15).toList = _
      rw [made_one]
      rfl
    have : cur = (rowV 0).toArray := by rw [← hl]
    rw [this]
theorem row_ints {W : World} {B g : Nat} (h : W.heap[g]? = some (.cells (rowV 15).toArray 2 (0, 0))) (hB : B ≤ g) : Ints B (.slice (some ⟨g, 0, none⟩) 15 15) (List.replicate 15 1) W :=
  ⟨rfl, .inr ⟨g, 15, (rowV 15).toArray, rfl, hB, h, by decide, by unfold maxLen; decide, rfl, rfl⟩⟩
theorem ones_one (k : Nat) : ∀ v ∈ List.replicate k (Value.int .i64 1), v.oneCell' = true := by
  intro v hv
  rw [(List.mem_replicate.1 hv).2]
  rfl

set_option maxRecDepth 100000 in
set_option maxHeartbeats 1000000 in
theorem mul64_any (w : World) : Calls Try.prog 167 #[.int .u64 1, .int .u64 15] w fun e w' => e = .returned (.tuple #[.int .u64 0, .int .u64 15]) ∧ w' = w := by
  have h1 : bits .and .u64 1 4294967295 = 1 := by decide
  have h2 : bits .and .u64 15 4294967295 = 15 := by decide
  have h3 : bits .and .u64 0 4294967295 = 0 := by decide
  go_enter Try.func167, Try.ntmps167
  go_wp2
  exact bodyPost_ret (v := .tuple #[.int .u64 0, .int .u64 15]) (by simp [results, Try.results167, go_sem]) rfl ⟨rfl, rfl⟩
set_option maxRecDepth 100000 in
theorem mul_any (w : World) : Calls Try.prog 149 #[.int .u64 1, .int .u64 15] w fun e w' => e = .returned (.tuple #[.int .u64 0, .int .u64 15]) ∧ w' = w := by
  go_enter Try.func149, Try.ntmps149
  go_wp2_with fail
  refine (mul64_any _).mono ?_
  rintro e w' ⟨rfl, hww⟩
  subst hww
  go_wp2
  exact bodyPost_ret (v := .tuple #[.int .u64 0, .int .u64 15]) (by simp [results, Try.results149, go_sem]) rfl ⟨rfl, rfl⟩

set_option maxRecDepth 100000 in
set_option maxHeartbeats 4000000 in
theorem repeat15_any (b : Nat) (w : World) (hc : w.cell? ⟨b, 0, none⟩ = some (.int .i64 1)) :
    Calls Try.prog 119 #[.slice (some ⟨b, 0, none⟩) 1 1, .int .i64 15] w fun e w' => ∃ g, e = .returned (.slice (some ⟨g, 0, none⟩) 15 15) ∧ Ints w.heap.size (.slice (some ⟨g, 0, none⟩) 15 15) (List.replicate 15 1) w' ∧ Below w.heap.size w w' := by
  obtain ⟨i0, hi, hz0, hz1, hz2⟩ := info_parts infoI
  have hszI : (Try.prog.info? 2).map (·.size) = some 1 := by rw [hi]; simp [hz1]
  go_enter Try.func119, Try.ntmps119
  go_wp2_with fail
  refine (mul_any _).mono ?_
  rintro e w1 ⟨rfl, hww⟩
  subst hww
  go_wp2_with (first | (at_make; refine wpList_make_full _ rfl _ _ 24 rfl w1.heap.size 2 i0 _ 1 Try.underlying24 hi hz0 hz1 .i64 .i64 _ _ 15 rfl rfl rfl rfl (by omega) (by unfold maxLen; omega) (Nat.le_refl _) ?_; intro w2 hown hgrow; have Hw2 := hidOf3 (made_row hown); have hBw2 : Below w1.heap.size w1 w2 := ⟨hgrow.os, hgrow.tape, hgrow.output, hgrow.size, fun k hk => hgrow.block k hk (by simp)⟩; have hc2 := cell_since hc hBw2; clear hown hgrow) | (guard_target =~ wpList _ _ _ (Oper.mk _ (Op.call { callee := Callee.builtin Builtin.copy, args := _, argTypes := _ }) _ _ _ _ :: _) _ _; refine wpList_copy_splice rfl _ _ _ _ rfl 2 Try.underlying24 hszI (some ⟨w1.heap.size, 0, none⟩) (some ⟨b, 0, none⟩) 15 15 1 1 rfl rfl w1.heap.size 0 (rowV 0) 2 Hw2.out [.int .i64 1] (by decide) (fun _ => ⟨rfl, _, rfl, (by intro j v hv; cases j with | zero => simp at hv; subst hv; simpa [Addr.add] using hc2 | succ j => simp at hv)⟩) (by decide) (ones_one 1) w1.heap.size w1 hBw2 (Nat.le_refl _) ?_; intro w3 hgw3 hBw3))
  have Hw3 := hidOf3 (show w3.heap[w1.heap.size]? = some (.cells (rowV 1).toArray 2 (0, 0)) from hgw3.out)
  clear hgw3 Hw2 hc2
  refine wp_loop_rounds 5 ?_
  rw [rounds_succ]
  go_wp2
  go_region_law (refine step_copy_splice (by rfl) _ _ _ _ (by rfl) 2 Try.underlying24 hszI (some ⟨w1.heap.size, 1, none⟩) (some ⟨w1.heap.size, 0, none⟩) 14 14 1 15 (by simp [Act.eval, Act.put]) (by simp [Act.eval, Act.put]) w1.heap.size 1 (rowV 1) 2 (by exact Hw3.out) (List.replicate 1 (.int .i64 1)) (by decide) (fun _ => ⟨rfl, _, rfl, (by exact ones_cells (show w3.drew.heap[w1.heap.size]? = _ from Hw3.out) (by omega))⟩) (by decide) (ones_one _) w1.heap.size w1 (by exact hBw3.drew) (Nat.le_refl _) ?_; intro w4 hgw4 hBw4)
  go_wp2
  have Hw4 := hidOf3 (show w4.heap[w1.heap.size]? = some (.cells (rowV 2).toArray 2 (0, 0)) from hgw4.out)
  clear hgw4 Hw3
  rw [rounds_succ]
  go_wp2
  go_region_law (refine step_copy_splice (by rfl) _ _ _ _ (by rfl) 2 Try.underlying24 hszI (some ⟨w1.heap.size, 2, none⟩) (some ⟨w1.heap.size, 0, none⟩) 13 13 2 15 (by simp [Act.eval, Act.put]) (by simp [Act.eval, Act.put]) w1.heap.size 2 (rowV 2) 2 (by exact Hw4.out) (List.replicate 2 (.int .i64 1)) (by decide) (fun _ => ⟨rfl, _, rfl, (by exact ones_cells (show w4.drew.heap[w1.heap.size]? = _ from Hw4.out) (by omega))⟩) (by decide) (ones_one _) w1.heap.size w1 (by exact hBw4.drew) (Nat.le_refl _) ?_; intro w5 hgw5 hBw5)
  go_wp2
  have Hw5 := hidOf3 (show w5.heap[w1.heap.size]? = some (.cells (rowV 4).toArray 2 (0, 0)) from hgw5.out)
  clear hgw5 Hw4
  rw [rounds_succ]
  go_wp2
  go_region_law (refine step_copy_splice (by rfl) _ _ _ _ (by rfl) 2 Try.underlying24 hszI (some ⟨w1.heap.size, 4, none⟩) (some ⟨w1.heap.size, 0, none⟩) 11 11 4 15 (by simp [Act.eval, Act.put]) (by simp [Act.eval, Act.put]) w1.heap.size 4 (rowV 4) 2 (by exact Hw5.out) (List.replicate 4 (.int .i64 1)) (by decide) (fun _ => ⟨rfl, _, rfl, (by exact ones_cells (show w5.drew.heap[w1.heap.size]? = _ from Hw5.out) (by omega))⟩) (by decide) (ones_one _) w1.heap.size w1 (by exact hBw5.drew) (Nat.le_refl _) ?_; intro w6 hgw6 hBw6)
  go_wp2
  have Hw6 := hidOf3 (show w6.heap[w1.heap.size]? = some (.cells (rowV 8).toArray 2 (0, 0)) from hgw6.out)
  clear hgw6 Hw5
  rw [rounds_succ]
  go_wp2
  go_region_law (refine step_copy_splice (by rfl) _ _ _ _ (by rfl) 2 Try.underlying24 hszI (some ⟨w1.heap.size, 8, none⟩) (some ⟨w1.heap.size, 0, none⟩) 7 7 8 15 (by simp [Act.eval, Act.put]) (by simp [Act.eval, Act.put]) w1.heap.size 8 (rowV 8) 2 (by exact Hw6.out) (List.replicate 7 (.int .i64 1)) (by decide) (fun _ => ⟨rfl, _, rfl, (by exact ones_cells (show w6.drew.heap[w1.heap.size]? = _ from Hw6.out) (by omega))⟩) (by decide) (ones_one _) w1.heap.size w1 (by exact hBw6.drew) (Nat.le_refl _) ?_; intro w7 hgw7 hBw7)
  go_wp2
  have Hw7 := hidOf3 (show w7.heap[w1.heap.size]? = some (.cells (rowV 15).toArray 2 (0, 0)) from hgw7.out)
  clear hgw7 Hw6
  rw [rounds_succ]
  go_wp2
  go_ret
  exact ⟨w1.heap.size, rfl, row_ints Hw7.out (Nat.le_refl _), hBw7⟩
end Go.Proofs.Ytgddobdpibnkeaa
/- What the exact laws' helpers that mark and look at marks do: markSeatS, heldSeatS, markWrapS. -/
namespace Go.Proofs.Ytgddobdpibnkeaa
open Go.RowKit

def smarks (k : Int) (n : Nat) : List (Int × Int) := (List.range n).map fun (i : Nat) => (k + 2 * (i : Int), k + 2 * (i : Int) + 1)
theorem smarks_length (k : Int) (n : Nat) : (smarks k n).length = n := by simp [smarks]
theorem smarks_get (k : Int) (n i : Nat) (h : i < (smarks k n).length) : (smarks k n)[i] = (k + 2 * (i : Int), k + 2 * (i : Int) + 1) := by simp [smarks]
def partSM (k : Int) (xs : List (Int × Int)) (j : Nat) : List (Int × Int) := smarks k j ++ xs.drop j
theorem partSM_length (k : Int) (xs : List (Int × Int)) (j : Nat) (h : j ≤ xs.length) : (partSM k xs j).length = xs.length := by simp [partSM, smarks_length]; omega
theorem partSM_set (k : Int) (xs : List (Int × Int)) (j : Nat) (h : j < xs.length) : (partSM k xs j).set j (k + 2 * (j : Int), k + 2 * (j : Int) + 1) = partSM k xs (j + 1) := by
  unfold partSM
  rw [List.drop_eq_getElem_cons h]
  have : smarks k (j + 1) = smarks k j ++ [(k + 2 * (j : Int), k + 2 * (j : Int) + 1)] := by simp [smarks, List.range_succ]
  rw [this, List.append_assoc, List.set_append_right _ _ (by simp [smarks_length])]
  simp [smarks_length]
  rw [List.drop_eq_getElem_cons h, List.set_cons_zero]

set_option maxHeartbeats 1000000 in
theorem markSeatS_any {B : Nat} {v : Value} {xs : List (Int × Int)} {w : World} (k : Int) (hx : Seats B v xs w) (hk : 0 ≤ k) (hs : k + 2 * xs.length ≤ 4611686018427387904) :
    Calls Try.prog 121 #[v, .int .i64 k] w fun e w' => e = .returned (.int .i64 (k + 2 * xs.length)) ∧ Seats B v (smarks k xs.length) w' ∧ w.grownBy w' v.ownBlock := by
  rcases hx.form with ⟨rfl, rfl⟩ | ⟨g, cap, rfl, hB, hg, h1, h2, h3, _⟩
  · simp only [List.length_nil]
    go_enter Try.func121, Try.ntmps121
    go_wp2
    refine wp_loop_rounds 1 ?_
    rw [rounds_succ]
    go_wp2
    go_ret
    exact ⟨by simp, hx, World.grownBy.refl _ _⟩
  · clear h3
    unfold maxLen at h2
    generalize hn : xs.length = n at *
    have HX : Hid (Seats B (.slice (some ⟨g, 0, none⟩) n cap) xs w) := hx
    clear hx
    go_enter Try.func121, Try.ntmps121
    go_wp2
    go_loopw [1, 5] (fun kk i wr => ∃ j : Nat, j ≤ n ∧ i = .int .i64 j ∧ kk = .int .i64 (k + 2 * j) ∧ Hid (Seats B (.slice (some ⟨g, 0, none⟩) n cap) (partSM k xs j) wr ∧ w.grownBy wr (some g))) (fun _ i _ => n - (intOf i).toNat)
    case atStart => exact ⟨0, Nat.zero_le _, rfl, by simp, by simpa [partSM, smarks] using HX.out, World.grownBy.refl _ _⟩
    case round =>
      obtain ⟨j, hj, rfl, rfl, HI⟩ := hrel
      by_cases hlt : j < n
      · have hlen : (partSM k xs j).length = n := by rw [partSM_length _ _ _ (by omega), hn]
        obtain ⟨hseg, hfz⟩ : KSeg g 0 (partSM k xs j) wr ∧ ∀ o, wr.frozen? ⟨g, o, none⟩ = false := by
          rcases HI.out.1.form with ⟨e, _⟩ | ⟨g', cap', e, _, _, _, _, e5, e6⟩
          · cases e
          · injection e with e; injection e with e; injection e with e; subst e; exact ⟨e5, e6⟩
        obtain ⟨c1, c2⟩ := hseg j (by omega)
        simp only [Nat.zero_add] at c1 c2
        obtain ⟨hst, hgr⟩ := HI.out.1.stored (by omega) j (by omega) (k + 2 * j) (k + 2 * j + 1)
        rw [partSM_set _ _ _ (by omega)] at hst
        have HS : Hid (Seats B (.slice (some ⟨g, 0, none⟩) n cap) (partSM k xs (j + 1)) ((wr.setCell ⟨g, j * 2, none⟩ (.int .i64 (k + 2 * j))).setCell ⟨g, j * 2 + 1, none⟩ (.int .i64 (k + 2 * j + 1))) ∧ w.grownBy ((wr.setCell ⟨g, j * 2, none⟩ (.int .i64 (k + 2 * j))).setCell ⟨g, j * 2 + 1, none⟩ (.int .i64 (k + 2 * j + 1))) (some g)) := ⟨hst, HI.out.2.trans hgr⟩
        generalize (partSM k xs j)[j].1 = z1 at c1
        generalize (partSM k xs j)[j].2 = z2 at c2
        have f1 := hfz (j * 2)
        have f2 := hfz (j * 2 + 1)
        clear hst hgr HI hseg hfz
        go_wp2
        go_roundw
        case rel => exact ⟨j + 1, by omega, by go_num, by go_num, HS⟩
        case measure => simp [intOf]; omega
      · have : j = n := by omega
        subst this
        go_wp2
        go_ret
        refine ⟨rfl, ?_, HI.out.2⟩
        have e : partSM k xs j = smarks k j := by simp [partSM, ← hn]
        rw [← e]; exact HI.out.1

set_option maxHeartbeats 1000000 in
theorem heldSeatS_any {B : Nat} {v : Value} {w : World} (k : Int) (n : Nat) (hx : Seats B v (smarks k n) w) (hk : 0 ≤ k) (hs : k + 2 * n ≤ 4611686018427387904) :
    Calls Try.prog 125 #[v, .int .i64 k] w fun e w' => e = .returned (.int .i64 (k + 2 * n)) ∧ w' = w := by
  rcases hx.form with ⟨rfl, h0⟩ | ⟨g, cap, rfl, hB, hg, h1, h2, h3, _⟩
  · have : n = 0 := by have := congrArg List.length h0; simpa [smarks_length] using this
    subst this
    go_enter Try.func125, Try.ntmps125
    go_wp2
    refine wp_loop_rounds 1 ?_
    rw [rounds_succ]
    go_wp2
    go_ret
    exact ⟨by simp, rfl⟩
  · rw [smarks_length]
    rw [smarks_length] at h1
    unfold maxLen at h2
    clear hx
    go_enter Try.func125, Try.ntmps125
    go_wp2
    go_loop [1, 5] (fun kk i => ∃ j : Nat, j ≤ n ∧ i = .int .i64 j ∧ kk = .int .i64 (k + 2 * j)) (fun _ i => n - (intOf i).toNat)
    case atStart => exact ⟨0, Nat.zero_le _, rfl, by simp⟩
    case round =>
      obtain ⟨j, hj, rfl, rfl⟩ := hrel
      by_cases hlt : j < n
      · obtain ⟨c1, c2⟩ := h3 j (by rw [smarks_length]; exact hlt)
        rw [smarks_get] at c1 c2
        simp only [Nat.zero_add] at c1 c2
        have H3 : Hid (KSeg g 0 (smarks k n) w) := h3
        clear h3
        go_wp2
        go_round
        case rel => exact ⟨j + 1, by omega, by go_num, by go_num⟩
        case measure => simp [intOf]; omega
      · have : j = n := by omega
        subst this
        go_wp2
        go_ret
        exact ⟨rfl, rfl⟩
end Go.Proofs.Ytgddobdpibnkeaa
/- Marks on servers; MembersOf of the program and of the model. -/
namespace Go.Proofs.Ytgddobdpibnkeaa
open Go.RowKit

set_option maxHeartbeats 1000000 in
theorem markServer_any {B : Nat} {x y : Value} {vs : List Int} {ss : List (Int × Int)} {w : World} (ep k : Int) (h : SrvIs B x y vs ss w) (hk : 0 ≤ k) (hs : k + vs.length + 2 * ss.length ≤ 4611686018427387904) :
    Calls Try.prog 78 #[svv ep x y, .int .i64 k] w fun e w' => e = .returned (.int .i64 (k + vs.length + 2 * ss.length)) ∧ SrvIs B x y (marks k vs.length) (smarks (k + vs.length) ss.length) w' ∧ ∃ w1, w.grownBy w1 x.ownBlock ∧ w1.grownBy w' y.ownBlock := by
  have hB1 := one_below w (svb ep x y)
  obtain ⟨c0, c1, c2⟩ := scell3 w ep x y
  have H1 : Hid (SrvIs B x y vs ss (w.alloc (svb ep x y))) := h.since hB1
  have hlx : ∀ j, x.ownBlock = some j → j < w.heap.size := fun j e => (h.1.lt j e).2
  have hly : ∀ j, y.ownBlock = some j → j < w.heap.size := fun j e => (h.2.1.lt j e).2
  have hG : w.grownBy (w.alloc (svb ep x y)) x.ownBlock := World.grownBy_alloc _ _ _
  clear h
  go_enter Try.func78, Try.ntmps78
  go_wp2_with fail
  generalize w.alloc (svb ep x y) = w1 at *
  refine (markInt64S_any k H1.out.1 hk (by omega)).mono ?_
  rintro e w2 ⟨rfl, m2, g2⟩
  have d2 : w2.cell? ⟨w.heap.size, 2, none⟩ = some y := g2.cell c2 (fun e => by have := hlx _ e.symm; simp at this)
  have s2 : Seats B y ss w2 := H1.out.2.1.kept g2 (fun j e e' => H1.out.2.2 j e e')
  have HA : Hid (∀ j, x.ownBlock = some j → y.ownBlock ≠ some j) := H1.out.2.2
  have HG : Hid (w.grownBy w2 x.ownBlock) := hG.trans g2
  have M2 : Hid (Ints B x (marks k vs.length) w2) := m2
  clear m2 g2 hG H1 c0 c1 c2
  go_wp2_with fail
  refine (markSeatS_any _ s2 (by omega) (by omega)).mono ?_
  rintro e w3 ⟨rfl, m3, g3⟩
  have M3 : Hid (Ints B x (marks k vs.length) w3) := M2.out.kept g3 (fun j e e' => HA.out j e' e)
  have HM : Hid (Seats B y (smarks (k + vs.length) ss.length) w3) := m3
  have HG3 : Hid (w2.grownBy w3 y.ownBlock) := g3
  clear m3 g3 M2 s2 d2
  go_wp2
  go_ret
  exact ⟨rfl, ⟨M3.out, HM.out, HA.out⟩, w2, HG.out, HG3.out⟩

set_option maxHeartbeats 1000000 in
theorem heldServer_any {B : Nat} {x y : Value} {w : World} (ep k : Int) (n m : Nat) (h : SrvIs B x y (marks k n) (smarks (k + n) m) w) (hk : 0 ≤ k) (hs : k + n + 2 * m ≤ 4611686018427387904) :
    Calls Try.prog 81 #[svv ep x y, .int .i64 k] w fun e w' => e = .returned (.int .i64 (k + n + 2 * m)) ∧ Below w.heap.size w w' := by
  have hB1 := one_below w (svb ep x y)
  obtain ⟨c0, c1, c2⟩ := scell3 w ep x y
  have H1 : Hid (SrvIs B x y (marks k n) (smarks (k + n) m) (w.alloc (svb ep x y))) := h.since hB1
  have hge : ¬ k + (n : Int) < 0 := by omega
  have hge2 : ¬ k + (n : Int) + 2 * (m : Int) < 0 := by omega
  clear h
  go_enter Try.func81, Try.ntmps81
  go_wp2_with fail
  generalize w.alloc (svb ep x y) = w1 at *
  refine (heldInt64S_any k n H1.out.1 hk (by omega)).mono ?_
  rintro e w' ⟨rfl, hww⟩
  subst w'
  have H2 : Hid (SrvIs B x y (marks k n) (smarks (k + n) m) w1) := H1.out
  have HB : Hid (Below w.heap.size w w1) := hB1
  go_wp2_with fail
  refine (heldSeatS_any (k + n) m H2.out.2.1 (by omega) (by omega)).mono ?_
  rintro e w' ⟨rfl, hww⟩
  subst w'
  go_wp2
  go_ret
  exact ⟨rfl, HB.out⟩
end Go.Proofs.Ytgddobdpibnkeaa
/- ServerNew of the program and of the model; the walk of its exact law. -/
namespace Go.Proofs.Ytgddobdpibnkeaa
open Go.RowKit

theorem nil_seats (B : Nat) (w : World) : Seats B (.slice none 0 0) [] w := ⟨by simp [kcells], .inl ⟨rfl, rfl⟩⟩
theorem nil_ints2 (B : Nat) (w : World) : Ints B (.slice none 0 0) [] w := ⟨by simp, .inl ⟨rfl, rfl⟩⟩
theorem cell_one2 (W : World) (t : TypeId) (x : Value) : ∀ j u, [x][j]? = some u → (W.alloc (.cells #[x] t)).cell? ((⟨W.heap.size, 0, none⟩ : Addr).add j) = some u := by
  intro j u hu
  cases j with
  | zero => simp at hu; subst hu; simp [Addr.add]
  | succ j => simp at hu
theorem blkA2 {W W' : World} {o x : Obj} {R : Nat} {row : Option Nat} (hg : (W.alloc o).grownBy W' row) (h : W.heap[R]? = some x) (hne : row ≠ some R) : W'.heap[R]? = some x := by
  have hl := (Array.getElem?_eq_some_iff.1 h).1
  rw [hg.block R (by simp; omega) (fun e => hne e.symm), Below.heap_alloc _ _ _ hl]
  exact h
theorem ints_row2 {W : World} {B n : Nat} {v : Value} {ys : List Value} {xs : List Int} (h : W.ownsRow B 2 1 v n ys) (e : ys = xs.map (Value.int .i64)) (hn : xs.length = n) : ∃ a c, v = .slice a n c ∧ Ints B (.slice a n c) xs W := by
  subst e hn
  obtain ⟨a, c, hv, _, _⟩ := Ints.row (show Ints B v xs W from h)
  subst hv
  exact ⟨a, c, rfl, h⟩
theorem ints_lit2 {W : World} {B n : Nat} {v : Value} {xs : List Int} (h : Ints B v xs W) (hn : xs.length = n) (o : Obj) : (W.alloc o).ownsRow B 2 1 v n (xs.map (Value.int .i64)) := by
  subst hn
  exact World.ownsRow.alloc h o

set_option maxRecDepth 100000 in
set_option maxHeartbeats 2000000 in
theorem serverNew_any (w : World) :
    Calls Try.prog 77 #[] w fun e w' => ∃ a c, e = .returned (svv 0 (.slice a 15 c) (.slice none 0 0)) ∧ SrvIs w.heap.size (.slice a 15 c) (.slice none 0 0) (List.replicate 15 1) [] w' ∧ Below w.heap.size w w' := by
  have hB0 := two_below w (svb 0 (.slice none 0 0) (.slice none 0 0)) (.cells #[.int .i64 1] 2)
  have t0 : ((w.alloc (svb 0 (.slice none 0 0) (.slice none 0 0))).alloc (.cells #[.int .i64 1] 2)).heap[w.heap.size]? = some (svb 0 (.slice none 0 0) (.slice none 0 0)) := by
    rw [Below.heap_alloc _ _ _ (by simp)]
    exact heap_alloc_new _ _
  have hc : ((w.alloc (svb 0 (.slice none 0 0) (.slice none 0 0))).alloc (.cells #[.int .i64 1] 2)).cell? ⟨w.heap.size + 1, 0, none⟩ = some (.int .i64 1) := by
    have := heap_alloc_new (w.alloc (svb 0 (.slice none 0 0) (.slice none 0 0))) (.cells #[.int .i64 1] 2)
    simp at this
    simp [World.cell?, this]
  have hs0 : ((w.alloc (svb 0 (.slice none 0 0) (.slice none 0 0))).alloc (.cells #[.int .i64 1] 2)).heap.size = w.heap.size + 1 + 1 := by simp
  go_enter Try.func77, Try.ntmps77
  go_wp2_with fail
  generalize (w.alloc (svb 0 (.slice none 0 0) (.slice none 0 0))).alloc (.cells #[.int .i64 1] 2) = w1 at *
  refine (repeat15_any (w.heap.size + 1) _ hc).mono ?_
  rintro e w2 ⟨g, rfl, k2, b2⟩
  have s0 := (b2.block (w.heap.size) (by omega)).trans t0
  have hB2 := more hB0 b2
  have hk2 := k2.lt
  obtain ⟨⟨p0, p1, p2⟩, f0, f1, f2⟩ := box3 s0
  have HF : Hid ((((w2.setCell ⟨w.heap.size, 0, none⟩ (.int .i64 0)).setCell ⟨w.heap.size, 1, none⟩ (.slice (some ⟨g, 0, none⟩) 15 15)).setCell ⟨w.heap.size, 2, none⟩ (.slice none 0 0)).heap[w.heap.size]? = some (svb 0 (.slice (some ⟨g, 0, none⟩) 15 15) (.slice none 0 0))) := box3_set2 (box3_set1 (box3_set0 s0 _) _) _
  have HB' : Hid (Below w.heap.size w (((w2.setCell ⟨w.heap.size, 0, none⟩ (.int .i64 0)).setCell ⟨w.heap.size, 1, none⟩ (.slice (some ⟨g, 0, none⟩) 15 15)).setCell ⟨w.heap.size, 2, none⟩ (.slice none 0 0))) := ((hB2.setCell (by simp) _).setCell (by simp) _).setCell (by simp) _
  have HK : Hid (Ints w.heap.size (.slice (some ⟨g, 0, none⟩) 15 15) (List.replicate 15 1) (((w2.setCell ⟨w.heap.size, 0, none⟩ (.int .i64 0)).setCell ⟨w.heap.size, 1, none⟩ (.slice (some ⟨g, 0, none⟩) 15 15)).setCell ⟨w.heap.size, 2, none⟩ (.slice none 0 0))) :=
    (((k2.mono (by omega)).kept (grown_set _ _ _ _) (fun k e e' => by cases e; have := (hk2 _ e').1; omega)).kept (grown_set _ _ _ _) (fun k e e' => by cases e; have := (hk2 _ e').1; omega)).kept (grown_set _ _ _ _) (fun k e e' => by cases e; have := (hk2 _ e').1; omega)
  clear s0 k2 hk2 b2 t0
  go_wp2
  have bF := HF.out
  have gB := HB'.out
  have gK := HK.out
  clear HF HB' HK
  generalize ((w2.setCell ⟨w.heap.size, 0, none⟩ (.int .i64 0)).setCell ⟨w.heap.size, 1, none⟩ (.slice (some ⟨g, 0, none⟩) 15 15)).setCell ⟨w.heap.size, 2, none⟩ (.slice none 0 0) = WF at bF gB gK ⊢
  obtain ⟨⟨z0, z1, z2⟩, _, _, _⟩ := box3 bF
  exact bodyPost_ret (v := svv 0 (.slice (some ⟨g, 0, none⟩) 15 15) (.slice none 0 0)) (by simp [results, Try.results77, go_sem, z0, z1, z2]) rfl ⟨some ⟨g, 0, none⟩, 15, rfl, ⟨gK, nil_seats _ _, fun k _ e => by cases e⟩, gB⟩

set_option maxRecDepth 100000 in
set_option maxHeartbeats 2000000 in
theorem specServerNew_any (w : World) :
    Calls Try.prog 76 #[] w fun e w' => ∃ a c, e = .returned (svv 0 (.slice a 15 c) (.slice none 0 0)) ∧ SrvIs w.heap.size (.slice a 15 c) (.slice none 0 0) (List.replicate 15 1) [] w' ∧ Below w.heap.size w w' := by
  obtain ⟨i0, hi, hz0, hz1, hz2⟩ := info_parts infoI
  have hB0 := two_below w (svb 0 (.slice none 0 0) (.slice none 0 0)) (svb 0 (.slice none 0 0) (.slice none 0 0))
  have t0 : ((w.alloc (svb 0 (.slice none 0 0) (.slice none 0 0))).alloc (svb 0 (.slice none 0 0) (.slice none 0 0))).heap[w.heap.size]? = some (svb 0 (.slice none 0 0) (.slice none 0 0)) := by
    rw [Below.heap_alloc _ _ _ (by simp)]
    exact heap_alloc_new _ _
  have t1 : ((w.alloc (svb 0 (.slice none 0 0) (.slice none 0 0))).alloc (svb 0 (.slice none 0 0) (.slice none 0 0))).heap[w.heap.size + 1]? = some (svb 0 (.slice none 0 0) (.slice none 0 0)) := by
    have := heap_alloc_new (w.alloc (svb 0 (.slice none 0 0) (.slice none 0 0))) (svb 0 (.slice none 0 0) (.slice none 0 0))
    simpa using this
  have hs0 : ((w.alloc (svb 0 (.slice none 0 0) (.slice none 0 0))).alloc (svb 0 (.slice none 0 0) (.slice none 0 0))).heap.size = w.heap.size + 1 + 1 := by simp
  go_enter Try.func76, Try.ntmps76
  go_wp2
  generalize (w.alloc (svb 0 (.slice none 0 0) (.slice none 0 0))).alloc (svb 0 (.slice none 0 0) (.slice none 0 0)) = w1 at *
  go_loopw [2] (fun i wr => ∃ (k : Nat) (a : Option Addr) (c : Nat), i = .int .i64 (k : Int) ∧ k ≤ 15 ∧ wr.heap[w.heap.size]? = some (svb 0 (.slice none 0 0) (.slice none 0 0)) ∧ wr.heap[w.heap.size + 1]? = some (svb 0 (.slice a k c) (.slice none 0 0)) ∧ Hid (Ints (w.heap.size + 1 + 1) (.slice a k c) (List.replicate k 1) wr) ∧ Below w.heap.size w wr ∧ w.heap.size + 1 + 1 ≤ wr.heap.size) (fun i _ => 15 - (intOf i).toNat)
  case atStart => exact ⟨0, none, 0, rfl, by omega, t0, t1, nil_ints2 _ _, hB0, by omega⟩
  case round =>
    obtain ⟨k, a, c, rfl, hk, r0, r1, HI, hB, hsz⟩ := hrel
    clear t0 t1 hB0
    obtain ⟨⟨q0, q1, q2⟩, e0, e1, e2⟩ := box3 r1
    have hne : ∀ j, (Value.slice a k c).ownBlock = some j → w.heap.size + 1 + 1 ≤ j := fun j e => (HI.out.lt j e).1
    by_cases hlt : k < 15
    · go_wp2_with (at_builtin; refine wpList_append_own _ rfl _ _ 24 rfl (w.heap.size + 1 + 1) 2 i0 (.int .i64 0) 1 8 Try.underlying24 hi hz0 hz1 hz2 rfl (by decide) _ _ _ rfl (ints_lit2 (n := k) HI.out (by simp) _) ⟨wr.heap.size, 0, none⟩ 1 1 [.int .i64 1] rfl rfl (cell_one2 _ _ _) (by simp [Value.oneCell']) (by unfold maxLen; omega) (by omega) (by simp <;> omega) ?_; intro v' w8 hown' hgrow _; obtain ⟨a8, c8, hv', hI'⟩ := ints_row2 (xs := List.replicate k 1 ++ [1]) hown' (by simp) (by simp); subst hv'; have HI8 := hidOf' hI'; have s0 := blkA2 hgrow r0 (fun e => by have := hne _ e; omega); have s1 := blkA2 hgrow r1 (fun e => by have := hne _ e; omega); have hs8 := hgrow.size; simp only [World.size_alloc] at hs8; have HB8 : Hid (Below w.heap.size w w8) := (hB.alloc hB.size _).grown hgrow (by simp <;> omega) (fun k e => by have := hne _ e; omega); clear hown' hI' hgrow q0 q1 q2 e0 e1 e2 r0 r1 hB HI; obtain ⟨⟨q0, q1, q2⟩, e0, e1, e2⟩ := box3 s1)
      have A0 := hidOf' (blk' (k := w.heap.size) (grown_set w8 (w.heap.size + 1) 1 (.slice a8 (k + 1) c8)) s0 (by omega))
      have A1 := hidOf' (box3_set1 s1 (.slice a8 (k + 1) c8))
      have AI := hidOf' (HI8.out.kept (grown_set w8 (w.heap.size + 1) 1 (.slice a8 (k + 1) c8)) (fun j e e' => by cases e; have := (HI8.out.lt _ e').1; omega))
      have AB := hidOf' (below_set HB8.out (w.heap.size + 1) 1 (.slice a8 (k + 1) c8) (by omega) (by omega))
      go_roundw
      case rel => exact ⟨k + 1, a8, c8, by go_num, by omega, A0.out, A1.out, (by show Ints _ _ _ _; rw [List.replicate_succ']; exact AI.out), AB.out, by simp <;> omega⟩
      case measure => simp [intOf] <;> omega
    · obtain rfl : k = 15 := by omega
      obtain ⟨⟨p0, p1, p2⟩, f0, f1, f2⟩ := box3 r0
      have HF : Hid ((((wr.setCell ⟨w.heap.size, 0, none⟩ (.int .i64 0)).setCell ⟨w.heap.size, 1, none⟩ (.slice a 15 c)).setCell ⟨w.heap.size, 2, none⟩ (.slice none 0 0)).heap[w.heap.size]? = some (svb 0 (.slice a 15 c) (.slice none 0 0))) := box3_set2 (box3_set1 (box3_set0 r0 _) _) _
      have HB' : Hid (Below w.heap.size w (((wr.setCell ⟨w.heap.size, 0, none⟩ (.int .i64 0)).setCell ⟨w.heap.size, 1, none⟩ (.slice a 15 c)).setCell ⟨w.heap.size, 2, none⟩ (.slice none 0 0))) := ((hB.setCell (by simp) _).setCell (by simp) _).setCell (by simp) _
      have HK : Hid (Ints w.heap.size (.slice a 15 c) (List.replicate 15 1) (((wr.setCell ⟨w.heap.size, 0, none⟩ (.int .i64 0)).setCell ⟨w.heap.size, 1, none⟩ (.slice a 15 c)).setCell ⟨w.heap.size, 2, none⟩ (.slice none 0 0))) :=
        (((HI.out.mono (by omega)).kept (grown_set _ _ _ _) (fun k e e' => by cases e; have := hne _ e'; omega)).kept (grown_set _ _ _ _) (fun k e e' => by cases e; have := hne _ e'; omega)).kept (grown_set _ _ _ _) (fun k e e' => by cases e; have := hne _ e'; omega)
      clear r0 r1 HI
      go_wp2
      have bF := HF.out
      have gB := HB'.out
      have gK := HK.out
      clear HF HB' HK
      generalize ((wr.setCell ⟨w.heap.size, 0, none⟩ (.int .i64 0)).setCell ⟨w.heap.size, 1, none⟩ (.slice a 15 c)).setCell ⟨w.heap.size, 2, none⟩ (.slice none 0 0) = WF at bF gB gK ⊢
      obtain ⟨⟨z0, z1, z2⟩, _, _, _⟩ := box3 bF
      exact bodyPost_ret (v := svv 0 (.slice a 15 c) (.slice none 0 0)) (by simp [results, Try.results76, go_sem, z0, z1, z2]) rfl ⟨a, c, rfl, ⟨gK, nil_seats _ _, fun k _ e => by cases e⟩, gB⟩

end Go.Proofs.Ytgddobdpibnkeaa
