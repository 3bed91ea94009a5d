
/- mailOk and WorldOk of the program. -/
import Derived.Test.YthfgiabkafdbdaaWlIm
import Derived.Test.YthfgiabkafdbdaaWlTw
namespace Go.Proofs.Ythfgiabkafdbdaa
open Go.RowKit

set_option maxRecDepth 100000 in
set_option maxHeartbeats 2000000 in
theorem mailOk_any {B C : Nat} {v m : Value} {ls : List LD} {ds : List MD} {w : World} (ep : Int) (h : Mails C v ls w) (hd : Mems B m ds w) :
    Calls Try.prog 62 #[v, m, .int .i64 ep] w fun e w' => e = .returned (.bool (mailB ep ds ls)) ∧ Below w.heap.size w w' := by
  obtain ⟨a, c, rfl, hm, hrow⟩ := h.len
  obtain ⟨am, cm, hvm⟩ := erd_slice hd
  subst hvm
  unfold maxLen at hm
  have HR := hidW hrow
  have HMs := hidW hd
  clear h hrow hd
  by_cases h60 : 60 < ls.length
  · have HD := hidW (show mailB ep ds ls = false by unfold mailB; rw [decide_eq_false (by omega)]; rfl)
    have h60' : (60 : Int) < (ls.length : Int) := by omega
    clear HR
    generalize ls.length = n at *
    go_enter Try.func62, Try.ntmps62
    go_wp2
    go_ret
    exact ⟨by rw [HD.out]; rfl, Below.refl _ _⟩
  · have HD := hidW (show mailB ep ds ls = postTo ep ds ls ls.length by unfold mailB; rw [decide_eq_true (by omega), postTo_all]; rfl)
    have HN0 := hidW (fun (h : postB ep ds ls = false) => (show mailB ep ds ls = false by unfold mailB; rw [h]; simp))
    have h60' : ¬ (60 : Int) < (ls.length : Int) := by omega
    generalize hn : ls.length = n at *
    go_enter Try.func62, Try.ntmps62
    go_wp2
    go_loopw [14] (fun i wr => ∃ k : Nat, i = .int .i64 (k : Int) ∧ k ≤ n ∧ postTo ep ds ls k = true ∧ Below w.heap.size w wr) (fun i _ => n - (intOf i).toNat)
    case atStart => exact ⟨0, rfl, Nat.zero_le _, by simp [postTo], Below.refl _ _⟩
    case round =>
      obtain ⟨k, rfl, hk, hpre, hB⟩ := hrel
      have HP := hidW hpre
      clear hpre
      by_cases hlt : k < n
      · have hlk : k < ls.length := by omega
        obtain ⟨b, off, ha, hb, hseg⟩ : ∃ b off, a = some ⟨b, off, none⟩ ∧ b < w.heap.size ∧ ESeg (fun u l W => Wraps C u l W) b off ls w := by
          rcases HR.out with e | e
          · rw [e] at hlk; simp at hlk
          · exact e
        subst ha
        obtain ⟨u, a0, a2, a3, a4⟩ := hseg k hlk
        obtain ⟨a1, e1, rfl⟩ := wrapsRow a4
        have HK := hidW a4
        have c0 := cell_since a0 hB
        have c1 := cell_since a2 hB
        have c2 := cell_since a3 hB
        have HM := hidW (show postAt ep ds ls[k] = (hasB ds ls[k].1 && (rkB ls[k].2.1 ls[k].2.2 && decide (ls[k].2.1 ≤ ep))) from rfl)
        have HS := hidW (postTo_succ ep ds ls k hlk)
        have HF := hidW (fun e => HN0.out (postB_false (ep := ep) (ds := ds) hlk e))
        clear hseg a0 a2 a3 a4
        generalize ls[k].2.2 = l3 at *
        generalize ls[k].1 = x1 at *
        generalize ls[k].2.1 = x2 at *
        have hB2 : Below w.heap.size w (wr.alloc (mlb x1 x2 (.slice a1 l3.length e1))) := hB.alloc hB.size _
        obtain ⟨d0, d1, d2⟩ := cellL3 wr x1 x2 (.slice a1 l3.length e1) 98
        go_upto_region 6 with fail
        clear c0 c1 c2
        generalize wr.alloc (mlb x1 x2 (.slice a1 l3.length e1)) = w2 at *
        go_wp2_with fail
        refine (hasMember_any x1 (ERd.since (stableK _) HMs.out hB2)).mono ?_
        rintro e w3 ⟨rfl, b3⟩
        have hB3 := more hB2 b3
        have d0 := cell_since d0 b3
        have d1 := cell_since d1 b3
        have d2 := cell_since d2 b3
        clear b3 hB2
        cases h1 : hasB ds x1 with
        | false =>
          have HN := hidW (HF.out (by rw [HM.out, h1]; rfl))
          clear h1
          go_wp2
          go_ret
          exact ⟨by rw [HN.out]; rfl, hB3⟩
        | true =>
          go_wp2_with fail
          refine (rekeyOk_any x2 (wrapsSince HK.out hB3)).mono ?_
          rintro e w4 ⟨rfl, b4⟩
          have hB4 := more hB3 b4
          have d0 := cell_since d0 b4
          have d1 := cell_since d1 b4
          have d2 := cell_since d2 b4
          clear b4 hB3
          cases h2 : rkB x2 l3 with
          | false =>
            have HN := hidW (HF.out (by rw [HM.out, h1, h2]; rfl))
            clear h1 h2
            go_wp2
            go_ret
            exact ⟨by rw [HN.out]; rfl, hB4⟩
          | true =>
            by_cases h3 : x2 ≤ ep
            · have h3' : ¬ ep < x2 := by omega
              have HN := hidW (show postTo ep ds ls (k + 1) = true by rw [HS.out, HP.out, HM.out, h1, h2, decide_eq_true h3]; rfl)
              clear h1 h2
              go_wp2
              go_roundw
              case rel => exact ⟨k + 1, by go_num, by omega, HN.out, hB4⟩
              case measure => simp [intOf]; omega
            · have h3' : ep < x2 := by omega
              have HN := hidW (HF.out (by rw [HM.out, h1, h2, decide_eq_false h3]; rfl))
              clear h1 h2
              go_wp2
              go_ret
              exact ⟨by rw [HN.out]; rfl, hB4⟩
      · obtain rfl : k = n := by omega
        have HN := hidW (show mailB ep ds ls = true by rw [HD.out]; exact HP.out)
        go_wp2
        go_ret
        exact ⟨by rw [HN.out]; rfl, hB⟩

set_option maxRecDepth 100000 in
set_option maxHeartbeats 2000000 in
theorem worldOk_any {B : Nat} {x y m l : Value} {vs : List Int} {ss : List (Int × Int)} {ds : List MD} {ls : List LD} {w : World} (ep : Int) (h : WlIs B x y m l vs ss ds ls w) :
    Calls Try.prog 34 #[wlv ep x y m l] w fun e w' => e = .returned (.bool (worldB ep vs ss ds ls)) ∧ Below w.heap.size w w' := by
  obtain ⟨ax, cx, hvx, _, _⟩ := h.x.row
  obtain ⟨ay, cy, hvy, hmy, hrow⟩ := h.y.row
  obtain ⟨am, cm, hvm⟩ := erd_slice h.m
  obtain ⟨al, cl, hvl⟩ := erd_slice h.l
  subst hvx hvy hvm hvl
  unfold maxLen at hmy
  have hB1 := one_below w (wlb ep (.slice ax vs.length cx) (.slice ay ss.length cy) (.slice am ds.length cm) (.slice al ls.length cl))
  obtain ⟨c0, c1, c2, c3, c4⟩ := wcell5 w ep (.slice ax vs.length cx) (.slice ay ss.length cy) (.slice am ds.length cm) (.slice al ls.length cl) 66
  have HW := hidW (fun W' (hb : Below w.heap.size w W') => h.since hb)
  have HR := hidW hrow
  clear hrow h
  generalize hn : ss.length = n at *
  go_enter Try.func34, Try.ntmps34
  go_wp2_with fail
  generalize w.alloc (wlb ep (.slice ax vs.length cx) (.slice ay n cy) (.slice am ds.length cm) (.slice al ls.length cl)) = w1 at *
  refine (serverOk_any ep (HW.out _ hB1).x (HW.out _ hB1).y).mono ?_
  rintro e w2 ⟨rfl, b2⟩
  have hB2 := more hB1 b2
  have c0 := cell_since c0 b2
  have c1 := cell_since c1 b2
  have c2 := cell_since c2 b2
  have c3 := cell_since c3 b2
  have c4 := cell_since c4 b2
  clear hB1 b2
  cases h1 : serverB ep vs ss with
  | false =>
    have HN := hidW (show worldB ep vs ss ds ls = false by simp [worldB, h1])
    clear h1
    go_wp2
    go_ret
    exact ⟨by rw [HN.out]; rfl, hB2⟩
  | true =>
  go_wp2_with fail
  refine (membersOk_any ep (HW.out _ hB2).m).mono ?_
  rintro e w3 ⟨rfl, b3⟩
  have hB3 := more hB2 b3
  have c0 := cell_since c0 b3
  have c1 := cell_since c1 b3
  have c2 := cell_since c2 b3
  have c3 := cell_since c3 b3
  have c4 := cell_since c4 b3
  clear hB2 b3
  cases h2 : memsB ep ds with
  | false =>
    have HN := hidW (show worldB ep vs ss ds ls = false by simp [worldB, h2])
    clear h1 h2
    go_wp2
    go_ret
    exact ⟨by rw [HN.out]; rfl, hB3⟩
  | true =>
  have HD := hidW (show worldB ep vs ss ds ls = (seatedTo ss ds ss.length && mailB ep ds ls) by rw [seatedTo_all]; simp [worldB, h1, h2])
  have HN0 := hidW (fun (h : seatedB ss ds = false) => (show worldB ep vs ss ds ls = false by simp [worldB, h]))
  rw [hn] at HD
  clear h1 h2
  go_wp2
  go_loopw [22] (fun i wr => ∃ k : Nat, i = .int .i64 (k : Int) ∧ k ≤ n ∧ seatedTo ss ds k = true ∧ Below w3.heap.size w3 wr) (fun i _ => n - (intOf i).toNat)
  case atStart => exact ⟨0, rfl, Nat.zero_le _, by simp [seatedTo], Below.refl _ _⟩
  case round =>
    obtain ⟨k, rfl, hk, hpre, hB⟩ := hrel
    have HP := hidW hpre
    clear hpre
    have hBr := more hB3 hB
    have c0 := cell_since c0 hB
    have c1 := cell_since c1 hB
    have c2 := cell_since c2 hB
    have c3 := cell_since c3 hB
    have c4 := cell_since c4 hB
    by_cases hlt : k < n
    · have hlk : k < ss.length := by omega
      obtain ⟨g, ha, hg, hseg⟩ : ∃ g, ay = some ⟨g, 0, none⟩ ∧ g < w.heap.size ∧ KSeg g 0 ss w := by
        rcases HR.out with e | e
        · rw [e] at hlk; simp at hlk
        · exact e
      subst ha
      obtain ⟨a0, a1⟩ := hseg k hlk
      simp only [Nat.zero_add] at a0 a1
      have e0 := cell_since a0 hBr
      have e1 := cell_since a1 hBr
      have HS := hidW (seatedTo_succ ss ds k hlk)
      have HF := hidW (fun e => HN0.out (seatedB_false (ds := ds) hlk e))
      clear hseg a0 a1
      generalize ss[k].1 = x1 at *
      generalize ss[k].2 = x2 at *
      have hb2 := one_below wr (sb x1 x2)
      have hB4 : Below w3.heap.size w3 (wr.alloc (sb x1 x2)) := more hB hb2
      have hB4' := more hBr hb2
      have f3 := cell_since c3 hb2
      have d0 : (wr.alloc (sb x1 x2)).cell? ⟨wr.heap.size, 0, none⟩ = some (.int .i64 x1) := by simp
      go_upto_region 6 with fail
      clear e0 e1 c0 c1 c2 c3 c4 hb2
      generalize wr.alloc (sb x1 x2) = w4 at *
      go_wp2_with fail
      refine (hasMember_any x1 (HW.out _ hB4').m).mono ?_
      rintro e w5 ⟨rfl, b5⟩
      have hB5 := more hB4 b5
      have hB5' := more hB4' b5
      clear hB4 hB4' b5 f3 d0
      cases h3 : hasB ds x1 with
      | false =>
        have HN := hidW (HF.out h3)
        clear h3
        go_wp2
        go_ret
        exact ⟨by rw [HN.out]; rfl, hB5'⟩
      | true =>
        have HN := hidW (show seatedTo ss ds (k + 1) = true by rw [HS.out, HP.out, h3]; rfl)
        clear h3
        go_wp2
        go_roundw
        case rel => exact ⟨k + 1, by go_num, by omega, HN.out, hB5⟩
        case measure => simp [intOf]; omega
    · have hkn : k = n := by omega
      have HN := hidW (show worldB ep vs ss ds ls = mailB ep ds ls by rw [HD.out, ← hkn, HP.out]; rfl)
      clear hkn
      go_wp2_with fail
      refine (mailOk_any ep (HW.out _ hBr).l (HW.out _ hBr).m).mono ?_
      rintro e w6 ⟨rfl, b6⟩
      have hB6 := more hBr b6
      clear b6 c0 c1 c2 c3 c4
      go_wp2
      go_ret
      exact ⟨by rw [HN.out]; rfl, hB6⟩
end Go.Proofs.Ythfgiabkafdbdaa
