
/- newest of the program. -/
import Derived.Test.YtkkjpkldfllfiaaNw
namespace Go.Proofs.Ytkkjpkldfllfiaa
open Go.RowKit

theorem two_kept {w W : World} {v : Value} {xs : List (Int × Int)} (h : Keys w.heap.size v xs W) (hB : Below w.heap.size w W) (o : Obj) (q : Nat) : Keys w.heap.size v xs ((W.alloc o).drewN q) ∧ Below w.heap.size w ((W.alloc o).drewN q) :=
  ⟨(keysSince h (one_below W o)).drewN q, below_drewN' (hB.alloc hB.size o) q⟩
theorem own_kept {B m : Nat} {v : Value} {xs : List (Int × Int)} {W : World} (h : Keys B v xs W) (hm : xs.length = m) (o : Obj) : (W.alloc o).ownsRow B 33 2 v m (kcells xs) := by
  subst hm
  exact World.ownsRow.alloc h o

set_option maxRecDepth 100000 in
set_option maxHeartbeats 4000000 in
theorem newest_any {B : Nat} {v : Value} {ks : List (Int × Int)} {w : World} (h : Keys B v ks w) (hl : ks.length ≤ 100000) :
    Calls Try.prog 102 #[v] w fun e w' => ∃ a c, e = .returned (.slice a (newK ks).length c) ∧ Keys w.heap.size (.slice a (newK ks).length c) (newK ks) w' ∧ Below w.heap.size w w' := by
  obtain ⟨i0, hi, hz0, hz1, hz2⟩ := info_parts infoK
  obtain ⟨a, c, hv, hm, hrow⟩ := h.row
  subst hv
  unfold maxLen at hm
  have HR := hidC hrow
  clear hrow h
  generalize hn : ks.length = n at *
  have HN := hidC hn
  clear hn
  go_enter Try.func102, Try.ntmps102
  go_wp2
  go_loopw [3, 8] (fun kvv i wr => ∃ (k m : Nat) (b : Option Addr) (d : Nat), kvv = .slice b m d ∧ i = .int .i64 (k : Int) ∧ k ≤ n ∧ Hid ((newTo ks k).length = m) ∧ Hid (Keys w.heap.size (.slice b m d) (newTo ks k) wr) ∧ Below w.heap.size w wr) (fun _ i _ => n - (intOf i).toNat)
  case atStart => exact ⟨0, 0, none, 0, rfl, rfl, by omega, rfl, noKeys _ _, Below.refl _ _⟩
  case round =>
    obtain ⟨k, m, b, d, rfl, rfl, hk, HM, HKs, hB⟩ := hrel
    have hle : m ≤ k := by have := newTo_le ks k; rw [HM.out] at this; exact this
    by_cases hlt : k < n
    · obtain ⟨g, ha, hg, hseg⟩ : ∃ g, a = some ⟨g, 0, none⟩ ∧ g < w.heap.size ∧ KSeg g 0 ks w := by
        rcases HR.out with e | e
        · have := HN.out; rw [e] at this; simp at this; omega
        · exact e
      subst ha
      have hlk : k < ks.length := by have := HN.out; omega
      obtain ⟨a1, a2⟩ := hseg k hlk
      have a1 := cell_since a1 hB
      have a2 := cell_since a2 hB
      simp only [Nat.zero_add] at a1 a2
      have hs := hB.size
      have hat : kAt ks k = ks[k] := kAt_get ks k hlk
      have HHit := hidC (newTo_hit (ks := ks) (m := k))
      have HMis := hidC (newTo_miss (ks := ks) (m := k))
      rw [hat] at HHit
      by_cases hlast : k + 1 = n
      · have HL : Hid (lastAt ks k = true) := by show lastAt ks k = true; simp [lastAt, HN.out, hlast]
        have hdec : (((k : Int) + 1) == (n : Int)) = true := by simp; omega
        have HE := hidC (HHit.out HL.out)
        clear HHit HMis HL hseg hat hlast
        generalize ks[k] = kk at *
        obtain ⟨x1, x2⟩ := kk
        dsimp only at a1 a2
        go_wp2
        go_quiet (fail)
        have TK := two_kept HKs.out hB (.cells #[.int .i64 x1, .int .i64 x2] 33) nq
        have HB1 := hidC TK.2
        have HK1 := hidC TK.1
        have HOwn := hidC (own_kept TK.1 HM.out (.cells #[.int .i64 x1, .int .i64 x2] 33))
        have hml := HM.out
        clear TK
        go_wp2_with (at_builtin; refine wpList_append_own _ rfl _ _ 24 rfl w.heap.size 33 i0 (.agg #[.int .i64 0, .int .i64 0]) 2 16 Try.underlying24 hi hz0 hz1 hz2 rfl (by decide) _ _ _ rfl HOwn.out ⟨wr.heap.size + 1, 0, none⟩ 1 1 [.int .i64 x1, .int .i64 x2] rfl rfl (cellKN' _ _ _ _ (by simp)) (by simp [Value.oneCell']) (by unfold maxLen; omega) (by omega) (by simp <;> omega) ?_; intro v' w8 hown' hgrow _; obtain ⟨a8, c8, hv', hI'⟩ := rowKN (xs := newTo ks k ++ [(x1, x2)]) hown' (by rw [kcells_append]; rfl) (by simp [HM.out]); subst hv'; have HI8 := hidC hI'; have HB8 := hidC (belowKN HK1.out HB1.out hgrow); clear hown' hI' hgrow)
        go_roundw
        case rel => exact ⟨k + 1, m + 1, a8, c8, by go_num, by go_num, by omega, (by show _ = _; rw [HE.out]; simp [HM.out]), (by show Keys _ _ _ _; rw [HE.out]; exact HI8.out), HB8.out⟩
        case measure => simp [intOf] <;> omega
      · have hdec : (((k : Int) + 1) == (n : Int)) = false := by simp; omega
        have hlk' : k + 1 < ks.length := by have := HN.out; omega
        have h1n : (k : Int) + 1 < (n : Int) := by omega
        have b1 := cell_since (hseg (k + 1) hlk').1 (hB.trans ((one_below wr (.cells #[.int .i64 ks[k].1, .int .i64 ks[k].2] 33)).mono hB.size))
        simp only [Nat.zero_add] at b1
        have HL : Hid (lastAt ks k = !decide (ks[k + 1].1 = ks[k].1)) := by
          show lastAt ks k = _
          unfold lastAt
          rw [kAt_get ks (k + 1) hlk', hat, decide_eq_false (by omega), Bool.false_or]
        clear hseg hat hlast
        generalize ks[k + 1].1 = y1 at *
        generalize ks[k] = kk at *
        obtain ⟨x1, x2⟩ := kk
        dsimp only at a1 a2 b1 HL
        by_cases hnode : y1 = x1
        · subst hnode
          have HE := hidC (HMis.out (by rw [HL.out]; simp))
          clear HHit HMis HL
          go_wp2
          go_quiet (fail)
          go_wp2
          have TK := two_kept HKs.out hB (.cells #[.int .i64 y1, .int .i64 x2] 33) nq
          go_roundw
          case rel => exact ⟨k + 1, m, b, d, rfl, by go_num, by omega, by show _ = _; rw [HE.out]; exact HM.out, by show Keys _ _ _ _; rw [HE.out]; exact TK.1, TK.2⟩
          case measure => simp [intOf] <;> omega
        · have HE := hidC (HHit.out (by rw [HL.out]; simp [hnode]))
          have hnode' : (y1 == x1) = false := by simpa using hnode
          clear HHit HMis HL
          go_wp2
          go_quiet (fail)
          have TK := two_kept HKs.out hB (.cells #[.int .i64 x1, .int .i64 x2] 33) nq
          have HB1 := hidC TK.2
          have HK1 := hidC TK.1
          have HOwn := hidC (own_kept TK.1 HM.out (.cells #[.int .i64 x1, .int .i64 x2] 33))
          have hml := HM.out
          clear TK
          go_wp2_with (at_builtin; refine wpList_append_own _ rfl _ _ 24 rfl w.heap.size 33 i0 (.agg #[.int .i64 0, .int .i64 0]) 2 16 Try.underlying24 hi hz0 hz1 hz2 rfl (by decide) _ _ _ rfl HOwn.out ⟨wr.heap.size + 1, 0, none⟩ 1 1 [.int .i64 x1, .int .i64 x2] rfl rfl (cellKN' _ _ _ _ (by simp)) (by simp [Value.oneCell']) (by unfold maxLen; omega) (by omega) (by simp <;> omega) ?_; intro v' w8 hown' hgrow _; obtain ⟨a8, c8, hv', hI'⟩ := rowKN (xs := newTo ks k ++ [(x1, x2)]) hown' (by rw [kcells_append]; rfl) (by simp [HM.out]); subst hv'; have HI8 := hidC hI'; have HB8 := hidC (belowKN HK1.out HB1.out hgrow); clear hown' hI' hgrow)
          go_roundw
          case rel => exact ⟨k + 1, m + 1, a8, c8, by go_num, by go_num, by omega, (by show _ = _; rw [HE.out]; simp [HM.out]), (by show Keys _ _ _ _; rw [HE.out]; exact HI8.out), HB8.out⟩
          case measure => simp [intOf] <;> omega
    · have hkn : k = n := by omega
      subst hkn
      go_wp2
      go_ret
      have e1 : newTo ks k = newK ks := by unfold newK; rw [HN.out]
      have e2 := HM.out
      have e3 := HKs.out
      rw [e1] at e2 e3
      rw [e2]
      exact ⟨b, d, rfl, e3, hB⟩
end Go.Proofs.Ytkkjpkldfllfiaa
