
/- MembersOf of the model. -/
import Derived.Test.YtplinjepeahahaaSrv6
namespace Go.Proofs.Ytplinjepeahahaa
open Go.RowKit

theorem emptyI (w : World) : Ints w.heap.size (.slice (some ⟨w.heap.size, 0, none⟩) 0 0) [] (w.alloc (.cells #[] 2)) := World.ownsRow_lit (base := w.heap.size) (size := 1) w #[] 0 (Nat.le_refl _) (by decide) rfl
set_option maxRecDepth 100000 in
set_option maxHeartbeats 2000000 in
theorem specMembersOf_any {B C : Nat} {x y : Value} {vs : List Int} {ss : List (Int × Int)} {w : World} (ep : Int) (hx : Ints B x vs w) (hy : Seats C y ss w) :
    Calls Try.prog 26 #[svv ep x y] w fun e w' => ∃ v, e = .returned v ∧ Ints w.heap.size v (membersL ep vs ss) w' ∧ Below w.heap.size w w' := by
  obtain ⟨i0, hi, hz0, hz1, hz2⟩ := info_parts infoI
  have hB1 := one_below w (svb ep x y)
  obtain ⟨c0, c1, c2⟩ := scell3 w ep x y
  have HX : Hid (Ints B x vs (w.alloc (svb ep x y))) := hx.since hB1
  have HY : Hid (Seats C y ss (w.alloc (svb ep x y))) := hy.since hB1
  obtain ⟨a, c, hv, hm, hrow⟩ := HY.out.row
  have HR : Hid (KRow a ss (w.alloc (svb ep x y))) := hrow
  subst hv
  clear hx hy hrow hm
  have hI0 := emptyI (w.alloc (svb ep x (.slice a ss.length c)))
  have hB0 := one_below (w.alloc (svb ep x (.slice a ss.length c))) (.cells #[] 2)
  have hs1 : (w.alloc (svb ep x (.slice a ss.length c))).heap.size = w.heap.size + 1 := by simp
  cases hok : serverB ep vs ss with
  | false =>
    have HM : Hid (membersL ep vs ss = []) := by show membersL ep vs ss = []; simp [membersL, hok]
    rw [World.size_alloc] at hI0
    have d0 := cell_since c0 hB0
    have d1 := cell_since c1 hB0
    have d2 := cell_since c2 hB0
    go_enter Try.func26, Try.ntmps26
    go_wp2
    refine wp_loop_rounds 1 ?_
    rw [rounds_succ]
    go_wp2_with fail
    refine (specServerOk_any ep (HX.out.since hB0) (HY.out.since hB0)).mono ?_
    rintro e w2 ⟨rfl, b2⟩
    rw [hok]
    have HI : Hid (Ints w.heap.size (.slice (some ⟨w.heap.size + 1, 0, none⟩) 0 0) [] w2) := (hI0.since b2).mono (by omega)
    have HB : Hid (Below w.heap.size w w2) := more (more hB1 hB0) b2
    go_wp2
    go_ret
    exact ⟨_, rfl, by rw [HM.out]; exact HI.out, HB.out⟩
  | true =>
    have HM : Hid (membersL ep vs ss = ss.map Prod.fst) := by show membersL ep vs ss = _; simp [membersL, hok]
    have h8 : ss.length ≤ 8 := serverB_seats hok
    have HO : Hid (serverB ep vs ss = true) := hok
    clear hok
    generalize hn : ss.length = n at *
    rw [World.size_alloc] at hI0
    go_enter Try.func26, Try.ntmps26
    go_wp2
    generalize w.alloc (svb ep x (.slice a n c)) = w1 at *
    go_loopw [3, 4] (fun v i wr => ∃ k : Nat, k ≤ n ∧ i = .int .i64 (k : Int) ∧ Hid (Ints w1.heap.size v ((ss.take k).map Prod.fst) wr) ∧ Below w1.heap.size w1 wr) (fun _ i _ => n - (intOf i).toNat)
    case atStart => exact ⟨0, Nat.zero_le _, rfl, hI0.mono (by omega), hB0⟩
    case round =>
      obtain ⟨k, hk, rfl, HI, hB⟩ := hrel
      clear hI0 hB0
      have hsz := hB.size
      have d0 := cell_since c0 hB
      have d1 := cell_since c1 hB
      have d2 := cell_since c2 hB
      by_cases hlt : k < n
      · have hlk : k < ss.length := by omega
        obtain ⟨g, ha, hg, hseg⟩ : ∃ g, a = some ⟨g, 0, none⟩ ∧ g < w1.heap.size ∧ KSeg g 0 ss w1 := by
          rcases HR.out with e | e
          · rw [e] at hlk; simp at hlk
          · exact e
        subst ha
        have a1 := (hseg k hlk).1
        simp only [Nat.zero_add] at a1
        have HT : Hid ((ss.take (k + 1)).map Prod.fst = (ss.take k).map Prod.fst ++ [ss[k].1]) := take_map_succ ss k hlk
        have hll : ((ss.take k).map Prod.fst).length ≤ 8 := by simp; omega
        have HA := hidOf' a1
        clear a1 hseg
        go_wp2_with fail
        refine (specServerOk_any ep (HX.out.since hB) (HY.out.since hB)).mono ?_
        rintro e w2 ⟨rfl, b2⟩
        rw [HO.out]
        have hB2 := more hB b2
        have hI2 := HI.out.since b2
        have e1 := cell_since HA.out hB2
        have e2 := cell_since d2 b2
        have hsz2 := hB2.size
        clear HA d0 d1 d2 HI hB b2
        generalize ss[k].1 = p at e1 HT
        go_wp2_with (at_builtin; refine wpList_append_own _ rfl _ _ 22 rfl w1.heap.size 2 i0 (.int .i64 0) 1 8 Try.underlying22 hi hz0 hz1 hz2 rfl (by decide) _ _ _ rfl (World.ownsRow.alloc hI2 _) ⟨w2.heap.size, 0, none⟩ 1 1 [.int .i64 p] rfl rfl (cell_one_new _ _ _) (by simp [Value.oneCell']) (by unfold maxLen; omega) (by omega) (by simp; omega) ?_; intro v' w3 hown' hgrow _)
        go_roundw
        case rel => exact ⟨k + 1, by omega, by go_num, (show Ints _ _ _ _ by unfold Ints; rw [HT.out]; simpa using hown'), app_below hI2 hB2 hgrow⟩
        case measure => simp [intOf]; omega
      · have HE : Hid ((ss.take k).map Prod.fst = ss.map Prod.fst) := by show (ss.take k).map Prod.fst = _; rw [List.take_of_length_le (by omega)]
        go_wp2_with fail
        refine (specServerOk_any ep (HX.out.since hB) (HY.out.since hB)).mono ?_
        rintro e w2 ⟨rfl, b2⟩
        rw [HO.out]
        have HI2 := hidOf' (HI.out.since b2)
        have e2 := cell_since d2 b2
        have HB : Hid (Below w.heap.size w w2) := more hB1 (more hB b2)
        clear d0 d1 d2 HI hB b2
        go_wp2
        go_ret
        exact ⟨_, rfl, by rw [HM.out, ← HE.out]; exact HI2.out.mono (by omega), HB.out⟩
end Go.Proofs.Ytplinjepeahahaa
