
/- MembersOf of the program. -/
import Derived.Test.YtplinjepeahahaaSrv6m
namespace Go.Proofs.Ytplinjepeahahaa
open Go.RowKit

def membersL (ep : Int) (vs : List Int) (ss : List (Int × Int)) : List Int := if serverB ep vs ss = true then ss.map Prod.fst else []
theorem take_map_succ (ss : List (Int × Int)) (k : Nat) (h : k < ss.length) : (ss.take (k + 1)).map Prod.fst = (ss.take k).map Prod.fst ++ [ss[k].1] := by
  rw [List.take_succ_eq_append_getElem h, List.map_append]; rfl
theorem serverB_seats {ep : Int} {vs : List Int} {ss : List (Int × Int)} (h : serverB ep vs ss = true) : ss.length ≤ 8 := by
  simp [serverB, seatsB] at h
  exact h.2.2.1
theorem none_ints (B : Nat) (w : World) : Ints B (.slice none 0 0) [] w := ⟨by simp, .inl ⟨rfl, rfl⟩⟩

set_option maxRecDepth 100000 in
set_option maxHeartbeats 2000000 in
theorem membersOf_any {B C : Nat} {x y : Value} {vs : List Int} {ss : List (Int × Int)} {w : World} (ep : Int) (hx : Ints B x vs w) (hy : Seats C y ss w) :
    Calls Try.prog 27 #[svv ep x y] w fun e w' => ∃ v, e = .returned v ∧ Ints w.heap.size v (membersL ep vs ss) w' ∧ Below w.heap.size w w' := by
  obtain ⟨i0, hi, hz0, hz1, hz2⟩ := info_parts infoI
  have hB1 := one_below w (svb ep x y)
  obtain ⟨c0, c1, c2⟩ := scell3 w ep x y
  have hX := hx.since hB1
  have hY := hy.since hB1
  clear hx hy
  go_enter Try.func27, Try.ntmps27
  go_wp2_with fail
  generalize w.alloc (svb ep x y) = w1 at hB1 c0 c1 c2 hX hY ⊢
  refine (serverOk_any ep hX hY).mono ?_
  rintro e w2 ⟨rfl, b2⟩
  have hB2 := more hB1 b2
  have d2 := cell_since c2 b2
  have hY2 := hY.since b2
  obtain ⟨a, c, hv, hm, hrow⟩ := hY2.row
  subst hv
  clear c0 c1 c2 hX hY b2 hB1 hY2
  cases hok : serverB ep vs ss with
  | false =>
    have HM : Hid (membersL ep vs ss = []) := by show membersL ep vs ss = []; simp [membersL, hok]
    go_wp2
    go_ret
    exact ⟨_, rfl, by rw [HM.out]; exact none_ints _ _, hB2⟩
  | true =>
    have HM : Hid (membersL ep vs ss = ss.map Prod.fst) := by show membersL ep vs ss = _; simp [membersL, hok]
    have h8 : ss.length ≤ 8 := serverB_seats hok
    have HR : Hid (KRow a ss w2) := hrow
    clear hrow hok hm
    have hs2 := hB2.size
    generalize hn : ss.length = n at d2 h8 ⊢
    go_wp2
    go_loopw [3, 12] (fun v i wr => ∃ k : Nat, k ≤ n ∧ i = .int .i64 (k : Int) ∧ Ints w2.heap.size v ((ss.take k).map Prod.fst) wr ∧ Below w2.heap.size w2 wr) (fun _ i _ => n - (intOf i).toNat)
    case atStart => exact ⟨0, Nat.zero_le _, rfl, none_ints _ _, Below.refl _ _⟩
    case round =>
      obtain ⟨k, hk, rfl, hI, hB⟩ := hrel
      have hsz := hB.size
      by_cases hlt : k < n
      · have hlk : k < ss.length := by omega
        obtain ⟨g, ha, hg, hseg⟩ : ∃ g, a = some ⟨g, 0, none⟩ ∧ g < w2.heap.size ∧ KSeg g 0 ss w2 := by
          rcases HR.out with e | e
          · rw [e] at hlk; simp at hlk
          · exact e
        subst ha
        obtain ⟨a1, a2⟩ := hseg k hlk
        simp only [Nat.zero_add] at a1 a2
        have e1 := cell_since a1 hB
        have e2 := cell_since a2 hB
        have HT : Hid ((ss.take (k + 1)).map Prod.fst = (ss.take k).map Prod.fst ++ [ss[k].1]) := take_map_succ ss k hlk
        have hll : ((ss.take k).map Prod.fst).length ≤ 8 := by simp; omega
        clear a1 a2 hseg
        generalize ss[k].1 = p at e1 HT
        generalize ss[k].2 = q at e2
        have hI2 := hI.since (one_below wr (sb p q))
        have hB3 := hB.alloc hsz (sb p q)
        have HC := hidOf' (cell_one_new (wr.alloc (sb p q)) (.int .i64 p) 2)
        rw [World.size_alloc] at HC
        clear hI hB
        go_wp2_with (at_builtin; refine wpList_append_own _ rfl _ _ 22 rfl w2.heap.size 2 i0 (.int .i64 0) 1 8 Try.underlying22 hi hz0 hz1 hz2 rfl (by decide) _ _ _ rfl (World.ownsRow.alloc hI2 _) ⟨wr.heap.size + 1, 0, none⟩ 1 1 [.int .i64 p] rfl rfl HC.out (by simp [Value.oneCell']) (by unfold maxLen; omega) (by omega) (by simp; omega) ?_; intro v' w3 hown' hgrow _)
        go_roundw
        case rel => exact ⟨k + 1, by omega, by go_num, by unfold Ints; rw [HT.out]; simpa using hown', app_below hI2 hB3 hgrow (by simp; omega)⟩
        case measure => simp [intOf]; omega
      · have e : k = n := by omega
        have HE : Hid ((ss.take k).map Prod.fst = ss.map Prod.fst) := by show (ss.take k).map Prod.fst = _; rw [List.take_of_length_le (by omega)]
        go_wp2
        go_ret
        exact ⟨_, rfl, by rw [HM.out, ← HE.out]; exact hI.mono hs2, more hB2 hB⟩
end Go.Proofs.Ytplinjepeahahaa
