
/- What the exact laws' helpers on lists of keys do: toKeyS, eqKey, eqKeyS, szKeyS. -/
import Derived.Test.YtplinjepeahahabToKb
import Derived.Test.YtplinjepeahahabKaTo
namespace Go.Proofs.Ytplinjepeahahab
open Go.RowKit

theorem szKeyS_any (a : Option Addr) (n c : Nat) (l : Int) (w : World) (hl : 0 ≤ l) (hl2 : l ≤ 1048576) (hn : n ≤ maxLen) :
    Calls Try.prog 16 #[.slice a n c, .int .i64 l] w fun e w' => e = .returned (.int .i64 (if l - (n : Int) < 0 then -1 else l - (n : Int))) ∧ w' = w := by
  unfold maxLen at hn
  by_cases h : l - (n : Int) < 0
  · rw [if_pos h]
    go_enter Try.func16, Try.ntmps16
    go_wp2
    go_ret
    exact ⟨rfl, rfl⟩
  · rw [if_neg h]
    go_enter Try.func16, Try.ntmps16
    go_wp2
    go_ret
    exact ⟨rfl, rfl⟩

set_option maxRecDepth 100000 in
set_option maxHeartbeats 1000000 in
theorem toKeyS_row (b off c : Nat) (ks : List (Int × Int)) (w : World) (hn : ks.length ≤ 1048576) (hb : b < w.heap.size) (hs : KSeg b off ks w) :
    Calls Try.prog 19 #[.slice (some ⟨b, off, none⟩) ks.length c] w fun e w' => ∃ v, e = .returned v ∧ v ≠ .slice none 0 0 ∧ Keys w.heap.size v ks w' ∧ Below w.heap.size w w' := by
  obtain ⟨i0, hi, hz0, hz1, hz2⟩ := info_parts infoK
  generalize hN : ks.length = N at hn ⊢
  go_enter Try.func19, Try.ntmps19
  go_wp2_with (at_make; refine wpList_make_full _ rfl _ _ 30 rfl w.heap.size 27 i0 _ 2 Try.underlying30 hi hz0 hz1 .i64 .i64 _ _ N rfl rfl rfl rfl (by rw [hz2]; omega) (by unfold maxLen; omega) (Nat.le_refl _) ?_; intro w0 hown0 hgrow0)
  have hK0 : Keys w.heap.size (.slice (some ⟨w.heap.size, 0, none⟩) N N) (partKeys ks 0) w0 := by
    unfold Keys
    rw [partKeys_length _ _ (Nat.zero_le _), hN]
    have e : partKeys ks 0 = List.replicate N (0, 0) := by simp [partKeys, hN]
    rw [e, kcells_zero, ← made_two]
    exact hown0
  have hB0 : Below w.heap.size w w0 := below_grown hgrow0
  clear hown0
  go_loopw [4] (fun i wr => ∃ k : Nat, k ≤ N ∧ i = .int .i64 (k : Int) ∧ Keys w.heap.size (.slice (some ⟨w.heap.size, 0, none⟩) N N) (partKeys ks k) wr ∧ Below w.heap.size w wr) (fun i _ => N - (intOf i).toNat)
  case atStart => exact ⟨0, Nat.zero_le _, rfl, hK0, hB0⟩
  case round =>
    obtain ⟨k, hk, rfl, hK, hB⟩ := hrel
    clear hK0 hB0 hgrow0
    by_cases hlt : k < N
    · have hkl : k < ks.length := by omega
      obtain ⟨c1, c2⟩ := hs k hkl
      have d1 : wr.cell? ⟨b, off + k * 2, none⟩ = some (.int .i64 ks[k].1) := (hB.cell (p := ⟨b, off + k * 2, none⟩) hb).trans c1
      have d2 : wr.cell? ⟨b, off + k * 2 + 1, none⟩ = some (.int .i64 ks[k].2) := (hB.cell (p := ⟨b, off + k * 2 + 1, none⟩) hb).trans c2
      have hpl : (partKeys ks k).length = N := by rw [partKeys_length _ _ (by omega), hN]
      have HS : Hid (KSeg b off ks w) := hs
      clear hs c1 c2
      generalize hk1 : ks[k].1 = p at d1
      generalize hk2 : ks[k].2 = q at d2
      have HK : Hid (ks[k] = (p, q)) := Prod.ext hk1 hk2
      clear hk1 hk2
      go_wp2_with fail
      refine (toKey_below _ _ _).mono ?_
      rintro e w2 ⟨rfl, hb2⟩
      have hK2 := hK.below hb2 (fun j e => (hK.lt j e).2)
      have hB2 := hB.trans (hb2.mono hB.size)
      clear hK hB d1 d2 hb2
      have hst := Keys.stored hpl hK2 k (by omega) p q
      rcases hK2.form with ⟨e, _⟩ | ⟨g, cap, e, _, _, _, _, hseg, hfr⟩
      · cases e
      simp only [Value.slice.injEq, Option.some.injEq, Addr.mk.injEq] at e
      obtain ⟨⟨rfl, -⟩, -, -⟩ := e
      obtain ⟨s1, s2⟩ := hseg k (by omega)
      have f1 := hfr (k * 2)
      have f2 := hfr (k * 2 + 1)
      simp only [Nat.zero_add] at s1 s2
      obtain ⟨x1, s1⟩ : ∃ x1, w2.cell? ⟨w.heap.size, k * 2, none⟩ = some x1 := ⟨_, s1⟩
      obtain ⟨x2, s2⟩ : ∃ x2, w2.cell? ⟨w.heap.size, k * 2 + 1, none⟩ = some x2 := ⟨_, s2⟩
      have hfin : Keys w.heap.size (.slice (some ⟨w.heap.size, 0, none⟩) N N) (partKeys ks (k + 1)) ((w2.setCell ⟨w.heap.size, k * 2, none⟩ (.int .i64 p)).setCell ⟨w.heap.size, k * 2 + 1, none⟩ (.int .i64 q)) := by
        rw [← partKeys_set ks k hkl, HK.out]; exact hst.1
      have HF : Hid (_ ∧ _) := And.intro hfin (hB2.grown hst.2 hB2.size (fun j e => by cases e; exact Nat.le_refl _))
      clear hfin hst hseg hfr hK2 hB2
      go_wp2
      go_roundw
      case rel => exact ⟨k + 1, by omega, by go_num, HF.out.1, HF.out.2⟩
      case measure => simp [intOf]; omega
    · have : k = N := by omega
      subst this
      go_wp2
      go_ret
      refine ⟨_, rfl, by simp, ?_, hB⟩
      have e : partKeys ks k = ks := by simp [partKeys, ← hN]
      rwa [e] at hK

theorem toKeyS_any (v : Value) (ks : List (Int × Int)) (w : World) (h : InKeys v ks w) (hn : ks.length ≤ 1048576) :
    Calls Try.prog 19 #[v] w fun e w' => ∃ v', e = .returned v' ∧ v' ≠ .slice none 0 0 ∧ Keys w.heap.size v' ks w' ∧ Below w.heap.size w w' := by
  rcases h with ⟨a, c, rfl, rfl⟩ | ⟨b, off, c, rfl, hl, hm, hs⟩
  · obtain ⟨i0, hi, hz0, hz1, hz2⟩ := info_parts infoK
    go_enter Try.func19, Try.ntmps19
    go_wp2_with (at_make; refine wpList_make_full _ rfl _ _ 30 rfl w.heap.size 27 i0 _ 2 Try.underlying30 hi hz0 hz1 .i64 .i64 _ _ 0 rfl rfl rfl rfl (by omega) (by unfold maxLen; omega) (Nat.le_refl _) ?_; intro w0 hown0 hgrow0)
    refine wp_loop_rounds 1 ?_
    rw [rounds_succ]
    go_wp2
    go_ret
    have e0 : (madeCells (Value.agg #[.int .i64 0, .int .i64 0]).cells (0 * 2)).toList = [] := by simp [madeCells]
    rw [e0] at hown0
    exact ⟨_, rfl, by simp, hown0, below_grown hgrow0⟩
  · exact toKeyS_row b off c ks w hn hl hs
end Go.Proofs.Ytplinjepeahahab
