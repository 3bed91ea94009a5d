/- Copies of members: ownMember of the program, l4Copy of the model. -/
import Derived.Test.YtjilbfohfgalkaaPart10
import Derived.Test.YtjilbfohfgalkaaPart0
import Derived.Deep.RegionHeld3
import Derived.Test.YtjilbfohfgalkaaPart7
import Derived.Test.YtjilbfohfgalkaaPart1
import Derived.Test.YtjilbfohfgalkaaPart2
import Derived.Test.YtjilbfohfgalkaaPart4
namespace Go.Proofs.Ytjilbfohfgalkaa
open Go.RowKit

theorem laterM {w W W' : World} {p1 p2 p3 : Addr} {v1 v2 v3 : Value} (h : W.cell? p1 = some v1 ∧ W.cell? p2 = some v2 ∧ W.cell? p3 = some v3 ∧ Below w.heap.size w W) (hb : Below W.heap.size W W') :
    W'.cell? p1 = some v1 ∧ W'.cell? p2 = some v2 ∧ W'.cell? p3 = some v3 ∧ Below w.heap.size w W' := ⟨cell_since h.1 hb, cell_since h.2.1 hb, cell_since h.2.2.1 hb, h.2.2.2.trans (hb.mono h.2.2.2.size)⟩

theorem emptyC (W : World) {S : Nat} (h : W.heap.size = S) : Keys S (.slice (some ⟨S, 0, none⟩) 0 0) [] (W.alloc (.cells #[] 36)) := by
  subst h
  exact World.ownsRow_lit (base := W.heap.size) (size := 2) W #[] 0 (Nat.le_refl _) (by decide) rfl
theorem blkC {W W' : World} {o x : Obj} {R : Nat} {row : Option Nat} (hg : (W.alloc o).grownBy W' row) (h : W.heap[R]? = some x) (hne : row ≠ some R) : W'.heap[R]? = some x := by
  have hl := (Array.getElem?_eq_some_iff.1 h).1
  rw [hg.block R (by simp; omega) (fun e => hne e.symm), Below.heap_alloc _ _ _ hl]
  exact h

set_option maxRecDepth 100000 in
set_option maxHeartbeats 1000000 in
theorem ownMember_any {B : Nat} {v : Value} {ks : List (Int × Int)} {w : World} (id ep : Int) (h : Keys B v ks w) (hl : ks.length ≤ 100000) :
    Calls Try.prog 21 #[mv id ep v] w fun e w' => ∃ p a c, e = .returned (.pointer (some ⟨p, 0, none⟩)) ∧ w'.heap[p]? = some (mb id ep (.slice a ks.length c)) ∧ Keys w.heap.size (.slice a ks.length c) ks w' ∧ w.heap.size ≤ p ∧ (Value.slice a ks.length c).ownBlock ≠ some p ∧ Below w.heap.size w w' := by
  obtain ⟨a, c, hv, _, _⟩ := h.row
  subst hv
  obtain ⟨c0, c1, c2⟩ := cell3 w id ep (.slice a ks.length c)
  have hB1 := one_below w (mb id ep (.slice a ks.length c))
  have HK := hidC (keysSince (keysSince h hB1) (Below.refl _ _).drew)
  clear h
  generalize hn : ks.length = n at *
  go_enter Try.func21, Try.ntmps21
  go_wp2
  generalize w.alloc (mb id ep (.slice a n c)) = w1 at *
  go_region_held3 (fun W => W.cell? ⟨w.heap.size, 0, none⟩ = some (.int .i64 id) ∧ W.cell? ⟨w.heap.size, 1, none⟩ = some (.int .i64 ep) ∧ W.cell? ⟨w.heap.size, 2, none⟩ = some (.slice a n c) ∧ Below w.heap.size w W)
    (first | exact ⟨c0, c1, c2, hB1.drew⟩ | exact laterM ‹_› b2 | exact laterM ‹_› (one_below _ _) | assumption)
    ((go_at_call 46; refine (copiedK_any HK.out (by omega)).mono ?_; rw [hn]; rintro e w2 ⟨a2, c2', rfl, k2, b2⟩))
  all_goals
    rename_i hHeld
    have hbW := hHeld.2.2.2
    clear hHeld
    have hlt := k2.lt
    have hsz : w.heap.size ≤ w1.heap.size := hB1.size
    have hs2 : w1.heap.size ≤ w2.heap.size := b2.size
    have HF := hidC (heap_alloc_new w2 (mb id ep (.slice a2 n c2')))
    have HKF := hidC (keysSince (k2.mono (show w.heap.size ≤ w1.heap.size from hsz)) (one_below w2 (mb id ep (.slice a2 n c2'))))
    have HBF := hidC hbW
    have HNE := hidC (show (Value.slice a2 n c2').ownBlock ≠ some w2.heap.size from fun e => by have := (hlt _ e).2; omega)
    clear hbW hlt k2 b2 HK c0 c1 c2
    go_wp2
    go_ret
    exact ⟨w2.heap.size, a2, c2', rfl, HF.out, HKF.out, by omega, HNE.out, HBF.out⟩

set_option maxRecDepth 100000 in
set_option maxHeartbeats 1000000 in
theorem l4Copy_any {B : Nat} {v : Value} {ks : List (Int × Int)} {w : World} (id ep : Int) (h : Keys B v ks w) (hl : ks.length ≤ 100000) :
    Calls Try.prog 31 #[mv id ep v] w fun e w' => ∃ a c, e = .returned (mv id ep (.slice a ks.length c)) ∧ Keys w.heap.size (.slice a ks.length c) ks w' ∧ Below w.heap.size w w' := by
  obtain ⟨a, c, hv, _, _⟩ := h.row
  subst hv
  have hB1 := two_below w (mb id ep (.slice a ks.length c)) (mb 0 0 (.slice none 0 0))
  have t0 : ((w.alloc (mb id ep (.slice a ks.length c))).alloc (mb 0 0 (.slice none 0 0))).heap[w.heap.size]? = some (mb id ep (.slice a ks.length c)) := by
    rw [Below.heap_alloc _ _ _ (by simp)]
    exact heap_alloc_new _ _
  have t1 : ((w.alloc (mb id ep (.slice a ks.length c))).alloc (mb 0 0 (.slice none 0 0))).heap[w.heap.size + 1]? = some (mb 0 0 (.slice none 0 0)) := by
    have := heap_alloc_new (w.alloc (mb id ep (.slice a ks.length c))) (mb 0 0 (.slice none 0 0))
    simpa using this
  have hs1 : ((w.alloc (mb id ep (.slice a ks.length c))).alloc (mb 0 0 (.slice none 0 0))).heap.size = w.heap.size + 1 + 1 := by simp
  have HK := hidC (keysSince (keysSince h hB1) (one_below _ (.cells #[] 36)))
  have HE := hidC (emptyC ((w.alloc (mb id ep (.slice a ks.length c))).alloc (mb 0 0 (.slice none 0 0))) hs1)
  clear h
  generalize hn : ks.length = n at *
  go_enter Try.func31, Try.ntmps31
  go_wp2_with (at_builtin; refine wpList_append_keysK rfl _ _ rfl (w.heap.size + 1 + 1) B (.slice (some ⟨w.heap.size + 1 + 1, 0, none⟩) 0 0) _ [] ks rfl HE.out rfl HK.out (by simp; omega) (by simp) ?_; intro a1 c1 w2 own1 gr1; simp only [List.length_nil, Nat.zero_add, List.nil_append, hn] at own1 ⊢; have s0 := blkC gr1 t0 (fun e => by have := Option.some.inj (show some (w.heap.size + 1 + 1) = some _ from e); omega); have s1 := blkC gr1 t1 (fun e => by have := Option.some.inj (show some (w.heap.size + 1 + 1) = some _ from e); omega); obtain ⟨⟨p0, p1, p2⟩, f0, f1, f2⟩ := box3 s0; obtain ⟨⟨q0, q1, q2⟩, g0, g1, g2⟩ := box3 s1)
  have hB2 : Below w.heap.size w w2 := (hB1.alloc hB1.size _).grown gr1 (by simp <;> omega) (fun j e => by have := Option.some.inj (show some (w.heap.size + 1 + 1) = some _ from e); omega)
  have hlt := own1.lt
  have bF := box3_set2 (box3_set1 (box3_set0 (blk' (k := w.heap.size + 1) (grown_set w2 w.heap.size 2 (.slice a1 n c1)) s1 (by omega)) (.int .i64 id)) (.int .i64 ep)) (.slice a1 n c1)
  have gK := ((((own1.mono (show w.heap.size ≤ w.heap.size + 1 + 1 by omega)).kept (grown_set w2 w.heap.size 2 (.slice a1 n c1)) (fun k e e' => by cases e; have := (hlt _ e').1; omega)).kept (grown_set _ (w.heap.size + 1) 0 (.int .i64 id)) (fun k e e' => by cases e; have := (hlt _ e').1; omega)).kept (grown_set _ (w.heap.size + 1) 1 (.int .i64 ep)) (fun k e e' => by cases e; have := (hlt _ e').1; omega)).kept (grown_set _ (w.heap.size + 1) 2 (.slice a1 n c1)) (fun k e e' => by cases e; have := (hlt _ e').1; omega)
  have gB : Below w.heap.size w ((((w2.setCell ⟨w.heap.size, 2, none⟩ (.slice a1 n c1)).setCell ⟨w.heap.size + 1, 0, none⟩ (.int .i64 id)).setCell ⟨w.heap.size + 1, 1, none⟩ (.int .i64 ep)).setCell ⟨w.heap.size + 1, 2, none⟩ (.slice a1 n c1)) := (((hB2.setCell (by simp) _).setCell (by simp) _).setCell (by simp) _).setCell (by simp) _
  generalize (((w2.setCell ⟨w.heap.size, 2, none⟩ (.slice a1 n c1)).setCell ⟨w.heap.size + 1, 0, none⟩ (.int .i64 id)).setCell ⟨w.heap.size + 1, 1, none⟩ (.int .i64 ep)).setCell ⟨w.heap.size + 1, 2, none⟩ (.slice a1 n c1) = WF at bF gK gB ⊢
  obtain ⟨⟨z0, z1, z2⟩, _, _, _⟩ := box3 bF
  exact bodyPost_ret (v := mv id ep (.slice a1 n c1)) (by simp [results, Try.results31, go_sem, z0, z1, z2]) rfl ⟨a1, c1, rfl, gK, gB⟩
end Go.Proofs.Ytjilbfohfgalkaa
/- l4Newest of the model. -/
namespace Go.Proofs.Ytjilbfohfgalkaa
open Go.RowKit

theorem drew_kept {w W : World} {v : Value} {xs : List (Int × Int)} (h : Keys w.heap.size v xs W) (hB : Below w.heap.size w W) (q : Nat) : Keys w.heap.size v xs (W.drewN q) ∧ Below w.heap.size w (W.drewN q) := ⟨h.drewN q, below_drewN' hB q⟩

set_option maxRecDepth 100000 in
set_option maxHeartbeats 4000000 in
theorem l4Newest_any {B : Nat} {v : Value} {ks : List (Int × Int)} {w : World} (h : Keys B v ks w) (hl : ks.length ≤ 100000) :
    Calls Try.prog 53 #[v] w fun e w' => ∃ a c, e = .returned (.slice a (newK ks).length c) ∧ Keys w.heap.size (.slice a (newK ks).length c) (newK ks) w' ∧ Below w.heap.size w w' := by
  obtain ⟨i0, hi, hz0, hz1, hz2⟩ := info_parts infoK
  obtain ⟨a, c, hv, hm, hrow⟩ := h.row
  subst hv
  unfold maxLen at hm
  have HR := hidC hrow
  clear hrow h
  generalize hn : ks.length = n at *
  have HN := hidC hn
  clear hn
  go_enter Try.func53, Try.ntmps53
  have E0 := hidC (emptyC w rfl)
  have hE1 := one_below w (.cells #[] 36)
  go_wp2
  go_loopw [3, 4] (fun kvv i wr => ∃ (k m : Nat) (b : Option Addr) (d : Nat), kvv = .slice b m d ∧ i = .int .i64 (k : Int) ∧ k ≤ n ∧ Hid ((newTo ks k).length = m) ∧ Hid (Keys w.heap.size (.slice b m d) (newTo ks k) wr) ∧ Below w.heap.size w wr) (fun _ i _ => n - (intOf i).toNat)
  case atStart => exact ⟨0, 0, _, _, rfl, rfl, by omega, rfl, E0.out, hE1⟩
  case round =>
    obtain ⟨k, m, b, d, rfl, rfl, hk, HM, HKs, hB⟩ := hrel
    have hle : m ≤ k := by have := newTo_le ks k; rw [HM.out] at this; exact this
    by_cases hlt : k < n
    · obtain ⟨g, ha, hg, hseg⟩ : ∃ g, a = some ⟨g, 0, none⟩ ∧ g < w.heap.size ∧ KSeg g 0 ks w := by
        rcases HR.out with e | e
        · have := HN.out; rw [e] at this; simp at this; omega
        · exact e
      subst ha
      have hlk : k < ks.length := by have := HN.out; omega
      obtain ⟨a1, a2⟩ := hseg k hlk
      have a1 := cell_since a1 hB
      have a2 := cell_since a2 hB
      simp only [Nat.zero_add] at a1 a2
      have hs := hB.size
      have hat : kAt ks k = ks[k] := kAt_get ks k hlk
      have HHit := hidC (newTo_hit (ks := ks) (m := k))
      have HMis := hidC (newTo_miss (ks := ks) (m := k))
      rw [hat] at HHit
      by_cases hlast : k + 1 = n
      · have HL : Hid (lastAt ks k = true) := by show lastAt ks k = true; simp [lastAt, HN.out, hlast]
        have hdec : (((k : Int) + 1) == (n : Int)) = true := by simp; omega
        have HE := hidC (HHit.out HL.out)
        clear HHit HMis HL hseg hat hlast
        generalize ks[k] = kk at *
        obtain ⟨x1, x2⟩ := kk
        dsimp only at a1 a2
        go_wp2
        go_quiet (fail)
        have TK := drew_kept HKs.out hB nq
        have HB1 := hidC TK.2
        have HK1 := hidC TK.1
        have HOwn := hidC (own_kept TK.1 HM.out (.cells #[.int .i64 x1, .int .i64 x2] 36))
        have hml := HM.out
        clear TK
        go_wp2_with (at_builtin; refine wpList_append_own _ rfl _ _ 24 rfl w.heap.size 36 i0 (.agg #[.int .i64 0, .int .i64 0]) 2 16 Try.underlying24 hi hz0 hz1 hz2 rfl (by decide) _ _ _ rfl HOwn.out ⟨wr.heap.size, 0, none⟩ 1 1 [.int .i64 x1, .int .i64 x2] rfl rfl (cellKN' _ _ _ _ (by simp)) (by simp [Value.oneCell']) (by unfold maxLen; omega) (by omega) (by simp <;> omega) ?_; intro v' w8 hown' hgrow _; obtain ⟨a8, c8, hv', hI'⟩ := rowKN (xs := newTo ks k ++ [(x1, x2)]) hown' (by rw [kcells_append]; rfl) (by simp [HM.out]); subst hv'; have HI8 := hidC hI'; have HB8 := hidC (belowKN HK1.out HB1.out hgrow); clear hown' hI' hgrow)
        go_roundw
        case rel => exact ⟨k + 1, m + 1, a8, c8, by go_num, by go_num, by omega, (by show _ = _; rw [HE.out]; simp [HM.out]), (by show Keys _ _ _ _; rw [HE.out]; exact HI8.out), HB8.out⟩
        case measure => simp [intOf] <;> omega
      · have hdec : (((k : Int) + 1) == (n : Int)) = false := by simp; omega
        have hlk' : k + 1 < ks.length := by have := HN.out; omega
        have h1n : (k : Int) + 1 < (n : Int) := by omega
        have b1 := cell_since (hseg (k + 1) hlk').1 hB
        simp only [Nat.zero_add] at b1
        have HL : Hid (lastAt ks k = !decide (ks[k + 1].1 = ks[k].1)) := by
          show lastAt ks k = _
          unfold lastAt
          rw [kAt_get ks (k + 1) hlk', hat, decide_eq_false (by omega), Bool.false_or]
        clear hseg hat hlast
        generalize ks[k + 1].1 = y1 at *
        generalize ks[k] = kk at *
        obtain ⟨x1, x2⟩ := kk
        dsimp only at a1 a2 b1 HL
        by_cases hnode : y1 = x1
        · subst hnode
          have HE := hidC (HMis.out (by rw [HL.out]; simp))
          clear HHit HMis HL
          go_wp2
          go_quiet (fail)
          go_wp2
          have TK := drew_kept HKs.out hB nq
          go_roundw
          case rel => exact ⟨k + 1, m, b, d, rfl, by go_num, by omega, by show _ = _; rw [HE.out]; exact HM.out, by show Keys _ _ _ _; rw [HE.out]; exact TK.1, TK.2⟩
          case measure => simp [intOf] <;> omega
        · have HE := hidC (HHit.out (by rw [HL.out]; simp [hnode]))
          have hnode' : (y1 == x1) = false := by simpa using hnode
          clear HHit HMis HL
          go_wp2
          go_quiet (fail)
          have TK := drew_kept HKs.out hB nq
          have HB1 := hidC TK.2
          have HK1 := hidC TK.1
          have HOwn := hidC (own_kept TK.1 HM.out (.cells #[.int .i64 x1, .int .i64 x2] 36))
          have hml := HM.out
          clear TK
          go_wp2_with (at_builtin; refine wpList_append_own _ rfl _ _ 24 rfl w.heap.size 36 i0 (.agg #[.int .i64 0, .int .i64 0]) 2 16 Try.underlying24 hi hz0 hz1 hz2 rfl (by decide) _ _ _ rfl HOwn.out ⟨wr.heap.size, 0, none⟩ 1 1 [.int .i64 x1, .int .i64 x2] rfl rfl (cellKN' _ _ _ _ (by simp)) (by simp [Value.oneCell']) (by unfold maxLen; omega) (by omega) (by simp <;> omega) ?_; intro v' w8 hown' hgrow _; obtain ⟨a8, c8, hv', hI'⟩ := rowKN (xs := newTo ks k ++ [(x1, x2)]) hown' (by rw [kcells_append]; rfl) (by simp [HM.out]); subst hv'; have HI8 := hidC hI'; have HB8 := hidC (belowKN HK1.out HB1.out hgrow); clear hown' hI' hgrow)
          go_roundw
          case rel => exact ⟨k + 1, m + 1, a8, c8, by go_num, by go_num, by omega, (by show _ = _; rw [HE.out]; simp [HM.out]), (by show Keys _ _ _ _; rw [HE.out]; exact HI8.out), HB8.out⟩
          case measure => simp [intOf] <;> omega
    · have hkn : k = n := by omega
      subst hkn
      go_wp2
      go_ret
      have e1 : newTo ks k = newK ks := by unfold newK; rw [HN.out]
      have e2 := HM.out
      have e3 := HKs.out
      rw [e1] at e2 e3
      rw [e2]
      exact ⟨b, d, rfl, e3, hB⟩
end Go.Proofs.Ytjilbfohfgalkaa
/- The walk of the exact law of KeyAhead: it answers true at every two keys, and nothing that lay there turns. -/
namespace Go.Proofs.Ytjilbfohfgalkaa
open Go.RowKit
theorem specAhead_below (a0 a1 b0 b1 : Int) (w : World) :
    Calls Try.prog 72 #[kv a0 a1, kv b0 b1] w fun e w' => e = .returned (.bool (aheadB a0 a1 b0 b1)) ∧ Below w.heap.size w w' :=
  (specAhead_any a0 a1 b0 b1 w).mono fun _ _ h => ⟨h.1, by rw [h.2]; exact ((Below.refl _ _).alloc (Nat.le_refl _) _).alloc (by simp) _⟩
theorem keyAhead_below (a0 a1 b0 b1 : Int) (w : World) :
    Calls Try.prog 57 #[kv a0 a1, kv b0 b1] w fun e w' => e = .returned (.bool (aheadB a0 a1 b0 b1)) ∧ Below w.heap.size w w' :=
  (keyAhead_any a0 a1 b0 b1 w).mono fun _ _ h => ⟨h.1, by rw [h.2]; exact ((((Below.refl _ _).alloc (Nat.le_refl _) _).alloc (by simp) _).alloc (by simp; omega) _).alloc (by simp; omega) _⟩

/-- Two boxes of two cells each, from block n on, and nothing turned below them. -/
def Two (n : Nat) (w : World) (a0 a1 b0 b1 : Int) (W : World) : Prop :=
  W.cell? ⟨n, 0, none⟩ = some (.int .i64 a0) ∧ W.cell? ⟨n, 1, none⟩ = some (.int .i64 a1) ∧ W.cell? ⟨n + 1, 0, none⟩ = some (.int .i64 b0) ∧ W.cell? ⟨n + 1, 1, none⟩ = some (.int .i64 b1) ∧ Below n w W ∧ n + 2 ≤ W.heap.size
theorem Two.later {n : Nat} {w W W' : World} {a0 a1 b0 b1 : Int} (h : Two n w a0 a1 b0 b1 W) (hb : Below W.heap.size W W') : Two n w a0 a1 b0 b1 W' := by
  obtain ⟨h1, h2, h3, h4, h5, h6⟩ := h
  exact ⟨(hb.cell (p := ⟨n, 0, none⟩) (by simp; omega)).trans h1, (hb.cell (p := ⟨n, 1, none⟩) (by simp; omega)).trans h2, (hb.cell (p := ⟨n + 1, 0, none⟩) (by simp; omega)).trans h3, (hb.cell (p := ⟨n + 1, 1, none⟩) (by simp; omega)).trans h4, h5.trans (hb.mono (by omega)), by have := hb.size; omega⟩
theorem Two.drew {n : Nat} {w W : World} {a0 a1 b0 b1 : Int} (h : Two n w a0 a1 b0 b1 W) : Two n w a0 a1 b0 b1 W.drew := h.later (Below.refl _ _).drew

end Go.Proofs.Ytjilbfohfgalkaa
/- What the exact laws' helpers on lists of keys do: toKeyS, eqKey, eqKeyS, szKeyS. -/
namespace Go.Proofs.Ytjilbfohfgalkaa
open Go.RowKit

end Go.Proofs.Ytjilbfohfgalkaa
/- What the exact laws' helpers on members do: toMember, szMember, eqMember; the root's key of keys. -/
namespace Go.Proofs.Ytjilbfohfgalkaa
open Go.RowKit

theorem since {B : Nat} {v : Value} {ks : List (Int × Int)} {W W' : World} (h : Keys B v ks W) (hb : Below W.heap.size W W') : Keys B v ks W' := h.below hb (fun k e => (h.lt k e).2)
def sameM (id ep : Int) (ks : List (Int × Int)) (id' ep' : Int) (ks' : List (Int × Int)) : Bool := decide (id = id' ∧ ep = ep') && eqL ks ks'
end Go.Proofs.Ytjilbfohfgalkaa
/- The laws' comparison of two members; the root's key of keys, GroupKeyOf of the program and of the model. -/
namespace Go.Proofs.Ytjilbfohfgalkaa
open Go.RowKit

theorem sameM_self (id ep : Int) (ks : List (Int × Int)) : sameM id ep ks id ep ks = true := by simp [sameM, eqL]

/-- The root's key of keys that rise. -/
def rootB (ks : List (Int × Int)) : Bool := decide (0 < ks.length) && decide ((kAt ks 0).1 = 1)
def rootK (ks : List (Int × Int)) : Int × Int := if rootB ks = true then kAt ks 0 else (0, 0)

set_option maxHeartbeats 1000000 in
theorem l4Root_any {B : Nat} {v : Value} {ks : List (Int × Int)} {w : World} (h : Keys B v ks w) :
    Calls Try.prog 55 #[v] w fun e w' => e = .returned (.tuple #[kv (rootK ks).1 (rootK ks).2, .bool (rootB ks)]) ∧ Below w.heap.size w w' := by
  obtain ⟨a, c, rfl, hm, hrow⟩ := h.row
  clear h
  unfold maxLen at hm
  by_cases h0 : ks = []
  · subst h0
    go_enter Try.func55, Try.ntmps55
    go_wp2
    exact bodyPost_ret (v := .tuple #[kv 0 0, .bool false]) (by simp [results, Try.results55, go_sem]) rfl ⟨rfl, one_below _ _⟩
  · obtain ⟨g, rfl, hg, hseg⟩ : ∃ g, a = some ⟨g, 0, none⟩ ∧ g < w.heap.size ∧ KSeg g 0 ks w := by
      rcases hrow with e | e
      · exact absurd e h0
      · exact e
    have hpos : 0 < ks.length := List.length_pos_iff.2 h0
    obtain ⟨c1, c2⟩ := hseg 0 hpos
    simp only [Nat.zero_add, Nat.zero_mul] at c1 c2
    have HK : Hid (kAt ks 0 = ks[0]) := kAt_get ks 0 hpos
    obtain ⟨x, y, hxy⟩ : ∃ x y, ks[0] = (x, y) := ⟨_, _, rfl⟩
    rw [hxy] at c1 c2 HK
    clear hxy hseg hrow
    by_cases hx : x = 1
    · subst hx
      have hrb : rootB ks = true := by simp [rootB, HK.out, hpos]
      have hrk : rootK ks = (1, y) := by simp [rootK, hrb, HK.out]
      rw [hrk, hrb]
      clear hrb hrk
      have hne : ((ks.length : Int) == 0) = false := by simp; omega
      generalize ks.length = n at hpos hm hne
      go_enter Try.func55, Try.ntmps55
      go_wp2
      exact bodyPost_ret (v := .tuple #[kv 1 y, .bool true]) (by simp [results, Try.results55, go_sem]) rfl ⟨rfl, one_below _ _⟩
    · have hx' : (x == 1) = false := by simpa using hx
      have hrb : rootB ks = false := by simp [rootB, HK.out, hx]
      have hrk : rootK ks = (0, 0) := by simp [rootK, hrb]
      rw [hrk, hrb]
      clear hrb hrk
      have hne : ((ks.length : Int) == 0) = false := by simp; omega
      generalize ks.length = n at hpos hm hne
      go_enter Try.func55, Try.ntmps55
      go_wp2
      exact bodyPost_ret (v := .tuple #[kv 0 0, .bool false]) (by simp [results, Try.results55, go_sem]) rfl ⟨rfl, one_below _ _⟩

set_option maxHeartbeats 1000000 in
theorem rootKey_any {B : Nat} {v : Value} {ks : List (Int × Int)} {w : World} (h : Keys B v ks w) :
    Calls Try.prog 25 #[v] w fun e w' => e = .returned (.tuple #[kv (rootK ks).1 (rootK ks).2, .bool (rootB ks)]) ∧ Below w.heap.size w w' := by
  obtain ⟨a, c, rfl, hm, hrow⟩ := h.row
  clear h
  unfold maxLen at hm
  by_cases h0 : ks = []
  · subst h0
    go_enter Try.func25, Try.ntmps25
    go_wp2
    exact bodyPost_ret (v := .tuple #[kv 0 0, .bool false]) (by simp [results, Try.results25, go_sem]) rfl ⟨rfl, one_below _ _⟩
  · obtain ⟨g, rfl, hg, hseg⟩ : ∃ g, a = some ⟨g, 0, none⟩ ∧ g < w.heap.size ∧ KSeg g 0 ks w := by
      rcases hrow with e | e
      · exact absurd e h0
      · exact e
    have hpos : 0 < ks.length := List.length_pos_iff.2 h0
    obtain ⟨c1, c2⟩ := hseg 0 hpos
    simp only [Nat.zero_add, Nat.zero_mul] at c1 c2
    have HK : Hid (kAt ks 0 = ks[0]) := kAt_get ks 0 hpos
    obtain ⟨x, y, hxy⟩ : ∃ x y, ks[0] = (x, y) := ⟨_, _, rfl⟩
    rw [hxy] at c1 c2 HK
    clear hxy hseg hrow
    by_cases hx : x = 1
    · subst hx
      have hrb : rootB ks = true := by simp [rootB, HK.out, hpos]
      have hrk : rootK ks = (1, y) := by simp [rootK, hrb, HK.out]
      rw [hrk, hrb]
      clear hrb hrk
      have hne : ((ks.length : Int) == 0) = false := by simp; omega
      generalize ks.length = n at hpos hm hne
      go_enter Try.func25, Try.ntmps25
      go_wp2
      exact bodyPost_ret (v := .tuple #[kv 1 y, .bool true]) (by simp [results, Try.results25, go_sem]) rfl ⟨rfl, one_below _ _⟩
    · have hx' : (x == 1) = false := by simpa using hx
      have hrb : rootB ks = false := by simp [rootB, HK.out, hx]
      have hrk : rootK ks = (0, 0) := by simp [rootK, hrb]
      rw [hrk, hrb]
      clear hrb hrk
      have hne : ((ks.length : Int) == 0) = false := by simp; omega
      generalize ks.length = n at hpos hm hne
      go_enter Try.func25, Try.ntmps25
      go_wp2
      exact bodyPost_ret (v := .tuple #[kv 0 0, .bool false]) (by simp [results, Try.results25, go_sem]) rfl ⟨rfl, one_below _ _⟩

end Go.Proofs.Ytjilbfohfgalkaa
/- Applied: what it answers. -/
namespace Go.Proofs.Ytjilbfohfgalkaa
open Go.RowKit

/-- What a member is behind a rekey, and the code, where 'out' is what is learned. -/
def apRes (id me : Int) (ks : List K2) (ep : Int) (ws : List W4) (out : List K2) : Int × Int × List K2 × Int :=
  if memberB id me ks = true then (if rkB ep ws = true then (if ep ≤ me then (id, me, ks, 3) else if me + 1 < ep then (id, me, ks, 4) else if rootK (newK out) = rootK ks then (id, me, ks, 5) else (id, ep, newK out, 0)) else (id, me, ks, 2)) else (0, 0, [], 1)
/-- Is anything learned at all? -/
def apN (id me : Int) (ks : List K2) (ep : Int) (ws : List W4) : Prop := memberB id me ks = true ∧ rkB ep ws = true ∧ ¬ ep ≤ me ∧ ¬ me + 1 < ep
def ApIs (id me : Int) (ks : List K2) (ep : Int) (ws : List W4) (i e : Int) (l : List K2) (r : Int) : Prop := ∃ out, (apN id me ks ep ws → LrnOut ks ws out) ∧ apRes id me ks ep ws out = (i, e, l, r)
theorem ApIs.one {id me : Int} {ks : List K2} {ep : Int} {ws : List W4} {i e r i' e' r' : Int} {l l' : List K2} (h : ApIs id me ks ep ws i e l r) (h' : ApIs id me ks ep ws i' e' l' r') : i = i' ∧ e = e' ∧ l = l' ∧ r = r' := by
  obtain ⟨o, ho, hr⟩ := h
  obtain ⟨o', ho', hr'⟩ := h'
  have : apRes id me ks ep ws o = apRes id me ks ep ws o' := by
    by_cases hN : apN id me ks ep ws
    · rw [(ho hN).one (ho' hN)]
    · unfold apRes
      split
      · split
        · split
          · rfl
          · split
            · rfl
            · exact absurd ⟨‹_›, ‹_›, ‹_›, ‹_›⟩ hN
        · rfl
      · rfl
  rw [hr, hr'] at this
  simpa using this
theorem ApIs.no {id me : Int} {ks : List K2} {ep : Int} {ws : List W4} (h : memberB id me ks = false) : ApIs id me ks ep ws 0 0 [] 1 := ⟨[], (fun n => by rw [n.1] at h; cases h), by simp [apRes, h]⟩
theorem ApIs.form {id me : Int} {ks : List K2} {ep : Int} {ws : List W4} (h : memberB id me ks = true) (hr : rkB ep ws = false) : ApIs id me ks ep ws id me ks 2 := ⟨[], (fun n => by rw [n.2.1] at hr; cases hr), by simp [apRes, h, hr]⟩
theorem ApIs.old {id me : Int} {ks : List K2} {ep : Int} {ws : List W4} (h : memberB id me ks = true) (hr : rkB ep ws = true) (ho : ep ≤ me) : ApIs id me ks ep ws id me ks 3 := ⟨[], (fun n => absurd ho n.2.2.1), by simp [apRes, h, hr, ho]⟩
theorem ApIs.gap {id me : Int} {ks : List K2} {ep : Int} {ws : List W4} (h : memberB id me ks = true) (hr : rkB ep ws = true) (ho : ¬ ep ≤ me) (hg : me + 1 < ep) : ApIs id me ks ep ws id me ks 4 := ⟨[], (fun n => absurd hg n.2.2.2), by simp [apRes, h, hr, ho, hg]⟩
theorem ApIs.lost {id me : Int} {ks : List K2} {ep : Int} {ws : List W4} {out : List K2} (h : memberB id me ks = true) (hr : rkB ep ws = true) (ho : ¬ ep ≤ me) (hg : ¬ me + 1 < ep) (hl : LrnOut ks ws out) (he : rootK (newK out) = rootK ks) : ApIs id me ks ep ws id me ks 5 := ⟨out, fun _ => hl, by simp [apRes, h, hr, ho, hg, he]⟩
theorem ApIs.done {id me : Int} {ks : List K2} {ep : Int} {ws : List W4} {out : List K2} (h : memberB id me ks = true) (hr : rkB ep ws = true) (ho : ¬ ep ≤ me) (hg : ¬ me + 1 < ep) (hl : LrnOut ks ws out) (he : rootK (newK out) ≠ rootK ks) : ApIs id me ks ep ws id ep (newK out) 0 := ⟨out, fun _ => hl, by simp [apRes, h, hr, ho, hg, he]⟩

/-- No more can be learned than stands there. -/
theorem few_of {α : Type} [BEq α] [LawfulBEq α] : ∀ {a b : List α}, a.Nodup → (∀ x, x ∈ a → x ∈ b) → a.length ≤ b.length
  | [], _, _, _ => Nat.zero_le _
  | x :: a, b, hn, hs => by
    have hn' := List.nodup_cons.1 hn
    have hx : x ∈ b := hs x (.head _)
    have := few_of (a := a) (b := b.erase x) hn'.2 fun y hy => (List.mem_erase_of_ne (fun e => hn'.1 (by rw [← e]; exact hy))).2 (hs y (.tail _ hy))
    rw [List.length_erase_of_mem hx] at this
    have : 0 < b.length := List.length_pos_of_mem hx
    simp only [List.length_cons]
    omega
theorem Rise.nodup {ks : List K2} (h : Rise ks) : ks.Nodup := by
  refine List.Pairwise.imp ?_ h
  intro a b hab e
  subst e
  exact Ah.irr _ hab
theorem LrnOut.few {ks : List K2} {ws : List W4} {out : List K2} (h : LrnOut ks ws out) : out.length ≤ 600 := by
  unfold LrnOut at h
  split at h
  · rename_i hb
    have h1 := (known_right hb.1).1
    have h2 := (wraps_right hb.2).1
    have := few_of (b := ks ++ ws.map wKey) h.1.nodup fun k hk => by
      have hL := (h.2 k).1 hk
      rw [List.mem_append, List.mem_map]
      exact hL (fun k => k ∈ ks ∨ ∃ a, a ∈ ws ∧ wKey a = k) (fun _ h => .inl h) (fun x hx _ => .inr ⟨x, hx, rfl⟩)
    rw [List.length_append, List.length_map] at this
    omega
  · subst h
    simp
theorem memberB_known {id me : Int} {ks : List K2} (h : memberB id me ks = true) : knownB ks = true := by
  unfold memberB headB at h
  simp only [Bool.and_eq_true] at h
  exact h.1.2.2
end Go.Proofs.Ytjilbfohfgalkaa
/- What can be learned: it grows with what is known and what is wrapped, is learned for good, in whatever order wraps come. -/
namespace Go.Proofs.Ytjilbfohfgalkaa
open Go.RowKit

theorem Lrn.grows {ks ks' : List K2} {ws ws' : List W4} (h1 : ∀ k ∈ ks, k ∈ ks') (h2 : ∀ x ∈ ws, x ∈ ws') {k : K2} (h : Lrn ks ws k) : Lrn ks' ws' k := by
  exact h _ (fun k hk => Lrn.known k (h1 k hk)) (fun x hx ih => Lrn.wrap x (h2 x hx) ih)
theorem Lrn.order {ks : List K2} {ws ws' : List W4} (h : ∀ x, x ∈ ws ↔ x ∈ ws') (k : K2) : Lrn ks ws k ↔ Lrn ks ws' k :=
  ⟨Lrn.grows (fun _ h => h) fun x => (h x).1, Lrn.grows (fun _ h => h) fun x => (h x).2⟩
theorem Lrn.forGood {ks out : List K2} {ws : List W4} (h : ∀ k, k ∈ out ↔ Lrn ks ws k) (k : K2) : Lrn out ws k ↔ Lrn ks ws k := by
  constructor
  · intro l
    exact l _ (fun k hk => (h k).1 hk) (fun x hx ih => Lrn.wrap x hx ih)
  · exact fun l => Lrn.known k ((h k).2 l)
theorem Lrn.cases' {ks : List K2} {ws : List W4} (k : K2) : Lrn ks ws k ↔ k ∈ ks ∨ ∃ x ∈ ws, wKey x = k ∧ Lrn ks ws (wUnder x) := by
  constructor
  · intro l
    refine l (fun k => k ∈ ks ∨ ∃ x ∈ ws, wKey x = k ∧ Lrn ks ws (wUnder x)) (fun k hk => .inl hk) (fun x hx ih => .inr ⟨x, hx, rfl, ?_⟩)
    rcases ih with h | ⟨y, hy, e, ly⟩
    · exact Lrn.known _ h
    · rw [← e]; exact Lrn.wrap y hy ly
  · rintro (h | ⟨x, hx, rfl, l⟩)
    · exact Lrn.known k h
    · exact Lrn.wrap x hx l
theorem Lrn.noWrap {ks : List K2} (k : K2) : Lrn ks [] k ↔ k ∈ ks := by
  rw [Lrn.cases']
  simp
/-- Keys that rise, each right, few: they are right. -/
theorem knownB_of {ks : List K2} (h1 : ks.length ≤ 200) (h2 : Rise ks) (h3 : ∀ k ∈ ks, okK k.1 k.2 = true) : knownB ks = true := by
  unfold knownB
  simp only [Bool.and_eq_true, decide_eq_true_eq]
  refine ⟨h1, ?_⟩
  unfold allTo
  rw [List.all_eq_true]
  intro i hi
  have hi := List.mem_range.1 hi
  unfold okAt
  rw [kAt_get ks i hi, kAt_get ks (i - 1) (by omega)]
  simp only [Bool.and_eq_true, Bool.or_eq_true, decide_eq_true_eq]
  refine ⟨h3 _ (List.getElem_mem hi), ?_⟩
  by_cases e : i = 0
  · exact .inl e
  · exact .inr ((ah_iff _ _).2 (List.pairwise_iff_getElem.1 h2 (i - 1) i (by omega) hi (by omega)))
end Go.Proofs.Ytjilbfohfgalkaa
/- What the drawn law of Learned asks of what can be learned: it is right, learned for good, grows, in whatever order. -/
namespace Go.Proofs.Ytjilbfohfgalkaa
open Go.RowKit

theorem rise_len : ∀ (a L : List K2), Rise a → (∀ k ∈ a, k ∈ L) → a.length ≤ L.length
  | [], _, _, _ => Nat.zero_le _
  | k :: a, L, h, hs => by
    have hp := List.pairwise_cons.1 h
    have hk : k ∈ L := hs k (by simp)
    have := rise_len a (L.erase k) hp.2 (fun x hx => by
      have hne : x ≠ k := fun e => Ah.irr k (e ▸ hp.1 x hx)
      exact (List.mem_erase_of_ne hne).2 (hs x (by simp [hx])))
    rw [List.length_erase_of_mem hk] at this
    have := List.length_pos_of_mem hk
    simp only [List.length_cons]
    omega
theorem known_ok {ks : List K2} (h : knownB ks = true) : ∀ k ∈ ks, okK k.1 k.2 = true := by
  unfold knownB at h
  simp only [Bool.and_eq_true, decide_eq_true_eq] at h
  intro k hk
  obtain ⟨i, hi, rfl⟩ := List.getElem_of_mem hk
  have := List.all_eq_true.1 h.2 i (List.mem_range.2 hi)
  unfold okAt at this
  rw [kAt_get ks i hi] at this
  simp only [Bool.and_eq_true] at this
  exact this.1
theorem wrapsB_of {ws : List W4} (h1 : ws.length ≤ 400) (h2 : ∀ x ∈ ws, okW x = true) : wrapsB ws = true := by
  unfold wrapsB
  simp only [Bool.and_eq_true, decide_eq_true_eq, List.all_eq_true]
  exact ⟨h1, h2⟩
theorem wraps_ok {ws : List W4} (h : wrapsB ws = true) : ws.length ≤ 400 ∧ ∀ x ∈ ws, okW x = true := by
  unfold wrapsB at h
  simp only [Bool.and_eq_true, decide_eq_true_eq, List.all_eq_true] at h
  exact h
theorem wrapsB_sub {ws ws' : List W4} (h : wrapsB ws = true) (hl : ws'.length ≤ ws.length) (hs : ∀ x ∈ ws', x ∈ ws) : wrapsB ws' = true :=
  wrapsB_of (by have := (wraps_ok h).1; omega) (fun x hx => (wraps_ok h).2 x (hs x hx))
theorem LrnOut.right {ks : List K2} {ws : List W4} {out : List K2} (h : LrnOut ks ws out) (hk : knownB ks = true) (hw : wrapsB ws = true) (hfew : ks.length + ws.length ≤ 200) : Rise out ∧ (∀ k, k ∈ out ↔ Lrn ks ws k) ∧ knownB out = true ∧ out.length ≤ ks.length + ws.length := by
  unfold LrnOut at h
  rw [if_pos ⟨hk, hw⟩] at h
  have hl : out.length ≤ ks.length + ws.length := by
    have := rise_len out (ks ++ ws.map wKey) h.1 (fun k hk => by
      rw [List.mem_append]
      rcases (Lrn.cases' k).1 ((h.2 k).1 hk) with h1 | ⟨x, hx, h1, _⟩
      · exact .inl h1
      · exact .inr (List.mem_map.2 ⟨x, hx, h1⟩))
    simpa using this
  refine ⟨h.1, h.2, knownB_of (by omega) h.1 (fun k hk' => ?_), hl⟩
  rcases (Lrn.cases' k).1 ((h.2 k).1 hk') with h1 | ⟨x, hx, h1, _⟩
  · exact known_ok hk k h1
  · have := (wraps_ok hw).2 x hx
    unfold okW at this
    simp only [Bool.and_eq_true] at this
    rw [← h1]
    exact this.2
/-- What was learned of what lies between what was known and what can be learned is what can be learned. -/
theorem LrnOut.again {ks mid out o : List K2} {ws : List W4} (h : ∀ k, k ∈ out ↔ Lrn ks ws k) (hr : Rise out) (hm : knownB mid = true) (hw : wrapsB ws = true) (h1 : ∀ k ∈ ks, k ∈ mid) (h2 : ∀ k ∈ mid, k ∈ out) (ho : LrnOut mid ws o) : o = out := by
  unfold LrnOut at ho
  rw [if_pos ⟨hm, hw⟩] at ho
  refine Rise.eq ho.1 hr (fun k => ?_)
  rw [ho.2 k]
  constructor
  · intro hk
    have := Lrn.grows (ks' := out) (ws' := ws) h2 (fun _ h => h) hk
    exact (h k).2 ((Lrn.forGood h k).1 this)
  · intro hk
    exact Lrn.grows (ks := ks) (ws := ws) h1 (fun _ h => h) ((h k).1 hk)
theorem LrnOut.other {ks out o : List K2} {ws ws' : List W4} (h : ∀ k, k ∈ out ↔ Lrn ks ws k) (hr : Rise out) (hk : knownB ks = true) (hw : wrapsB ws' = true) (hs : ∀ x, x ∈ ws ↔ x ∈ ws') (ho : LrnOut ks ws' o) : o = out := by
  unfold LrnOut at ho
  rw [if_pos ⟨hk, hw⟩] at ho
  refine Rise.eq ho.1 hr (fun k => ?_)
  rw [ho.2 k, h k]
  exact (Lrn.order hs k).symm
theorem wcells_take (ws : List W4) (m : Nat) : (wcells ws).take (m * 4) = wcells (ws.take m) := by
  induction ws generalizing m with
  | nil => simp [wcells]
  | cons k ws ih =>
    cases m with
    | zero => simp [wcells]
    | succ m =>
      have e : (m + 1) * 4 = m * 4 + 1 + 1 + 1 + 1 := by omega
      have := ih m
      rw [e]
      simp only [wcells, List.flatMap_cons, List.cons_append, List.nil_append, List.take_succ_cons] at this ⊢
      rw [this]
theorem Wraps.cut {B g cap : Nat} {ws : List W4} {n : Nat} {W : World} (h : Wraps B (.slice (some ⟨g, 0, none⟩) n cap) ws W) (m : Nat) (hm : m ≤ ws.length) : Wraps B (.slice (some ⟨g, 0, none⟩) m cap) (ws.take m) W := by
  have hl : (ws.take m).length = m := by simp; omega
  obtain ⟨_, h2⟩ := h
  rcases h2 with ⟨e, _⟩ | ⟨g', cap', cur, e, hb, hg, h1, h3, h4, h5⟩
  · cases e
  · injection e with e e1 e2
    injection e with e
    injection e with e
    subst e e2
    refine ⟨by rw [wcells_length], .inr ⟨g, cap, cur, by rw [hl], hb, hg, by omega, h3, h4, ?_⟩⟩
    rw [hl, ← wcells_take, ← h5, List.take_take, Nat.min_eq_left (by omega)]
theorem drop_rev (ws : List W4) (j : Nat) (h : j < ws.length) : (ws.drop j).reverse = (ws.drop (j + 1)).reverse ++ [ws[j]] := by
  rw [List.drop_eq_getElem_cons h, List.reverse_cons]
end Go.Proofs.Ytjilbfohfgalkaa
/- GroupKeyOf of both. -/
namespace Go.Proofs.Ytjilbfohfgalkaa
open Go.RowKit

/-- The group's key of a member. -/
def groupB (id ep : Int) (ks : List (Int × Int)) : Bool := memberB id ep ks && rootB ks
def groupK (id ep : Int) (ks : List (Int × Int)) : Int × Int := if memberB id ep ks = true then rootK ks else (0, 0)

set_option maxHeartbeats 1000000 in
theorem groupKeyOf_any {B : Nat} {v : Value} {ks : List (Int × Int)} {w : World} (id ep : Int) (h : Keys B v ks w) :
    Calls Try.prog 10 #[mv id ep v] w fun e w' => e = .returned (.tuple #[kv (groupK id ep ks).1 (groupK id ep ks).2, .bool (groupB id ep ks)]) ∧ Below w.heap.size w w' := by
  obtain ⟨c0, c1, c2⟩ := cell3 w id ep v
  have d0 := cell_since c0 (one_below _ (kb 0 0))
  have d1 := cell_since c1 (one_below _ (kb 0 0))
  have d2 := cell_since c2 (one_below _ (kb 0 0))
  have hB2 := two_below w (mb id ep v) (kb 0 0)
  have hK := since h hB2
  have bR : ((w.alloc (mb id ep v)).alloc (kb 0 0)).heap[w.heap.size + 1]? = some (kb 0 0) := by
    have := heap_alloc_new (w.alloc (mb id ep v)) (kb 0 0)
    simpa using this
  have hs0 : ((w.alloc (mb id ep v)).alloc (kb 0 0)).heap.size = w.heap.size + 1 + 1 := by simp
  clear c0 c1 c2 h
  go_enter Try.func10, Try.ntmps10
  go_wp2_with fail
  generalize (w.alloc (mb id ep v)).alloc (kb 0 0) = w1 at d0 d1 d2 hB2 hK bR hs0 ⊢
  refine (memberOk_any id ep hK).mono ?_
  rintro e w2 ⟨rfl, b2⟩
  have e0 := cell_since d0 b2
  have e1 := cell_since d1 b2
  have e2 := cell_since d2 b2
  have hK2 := since hK b2
  have hB3 := more hB2 b2
  have bR2 := (b2.block (w.heap.size + 1) (by omega)).trans bR
  have hsz := b2.size
  obtain ⟨r0, r1, f0, f1⟩ : w2.cell? ⟨w.heap.size + 1, 0, none⟩ = some (.int .i64 0) ∧ w2.cell? ⟨w.heap.size + 1, 1, none⟩ = some (.int .i64 0) ∧ w2.frozen? ⟨w.heap.size + 1, 0, none⟩ = false ∧ w2.frozen? ⟨w.heap.size + 1, 1, none⟩ = false := by
    simp [World.cell?, World.frozen?, bR2]
  clear d0 d1 d2 hB2 hK bR b2
  cases hok : memberB id ep ks with
  | false =>
    have HG : Hid (groupK id ep ks = (0, 0) ∧ groupB id ep ks = false) := by show groupK id ep ks = (0, 0) ∧ groupB id ep ks = false; simp [groupK, groupB, hok]
    have HB : Hid (Below w.heap.size w ((w2.setCell ⟨w.heap.size + 1, 0, none⟩ (.int .i64 0)).setCell ⟨w.heap.size + 1, 1, none⟩ (.int .i64 0))) := (hB3.setCell (by simp) _).setCell (by simp) _
    have HF : Hid (((w2.setCell ⟨w.heap.size + 1, 0, none⟩ (.int .i64 0)).setCell ⟨w.heap.size + 1, 1, none⟩ (.int .i64 0)).heap[w.heap.size + 1]? = some (kb 0 0)) := by show _ = _; simp [World.setCell, Array.getElem?_modify, bR2]
    go_wp2
    have bF := HF.out
    have gB := HB.out
    have gG := HG.out
    clear HF HB HG
    generalize (w2.setCell ⟨w.heap.size + 1, 0, none⟩ (.int .i64 0)).setCell ⟨w.heap.size + 1, 1, none⟩ (.int .i64 0) = WF at bF gB ⊢
    obtain ⟨z0, z1⟩ : WF.cell? ⟨w.heap.size + 1, 0, none⟩ = some (.int .i64 0) ∧ WF.cell? ⟨w.heap.size + 1, 1, none⟩ = some (.int .i64 0) := by simp [World.cell?, bF]
    exact bodyPost_ret (v := .tuple #[kv 0 0, .bool false]) (by simp [results, Try.results10, go_sem, z0, z1]) rfl ⟨by rw [gG.1, gG.2], gB⟩
  | true =>
    have HG : Hid (groupK id ep ks = rootK ks ∧ groupB id ep ks = rootB ks) := by show groupK id ep ks = rootK ks ∧ groupB id ep ks = rootB ks; simp [groupK, groupB, hok]
    go_wp2_with fail
    refine (rootKey_any hK2).mono ?_
    rintro e w3 ⟨rfl, b3⟩
    have hB4 := more hB3 b3
    have bR3 := (b3.block (w.heap.size + 1) (by omega)).trans bR2
    obtain ⟨r0, r1, f0, f1⟩ : w3.cell? ⟨w.heap.size + 1, 0, none⟩ = some (.int .i64 0) ∧ w3.cell? ⟨w.heap.size + 1, 1, none⟩ = some (.int .i64 0) ∧ w3.frozen? ⟨w.heap.size + 1, 0, none⟩ = false ∧ w3.frozen? ⟨w.heap.size + 1, 1, none⟩ = false := by
      simp [World.cell?, World.frozen?, bR3]
    generalize hrk : rootK ks = rk at HG ⊢
    obtain ⟨x, y⟩ := rk
    have HB : Hid (Below w.heap.size w ((w3.setCell ⟨w.heap.size + 1, 0, none⟩ (.int .i64 x)).setCell ⟨w.heap.size + 1, 1, none⟩ (.int .i64 y))) := (hB4.setCell (by simp) _).setCell (by simp) _
    have HF : Hid (((w3.setCell ⟨w.heap.size + 1, 0, none⟩ (.int .i64 x)).setCell ⟨w.heap.size + 1, 1, none⟩ (.int .i64 y)).heap[w.heap.size + 1]? = some (kb x y)) := by show _ = _; simp [World.setCell, Array.getElem?_modify, bR3]
    clear e0 e1 e2 hK2 hB3 bR2 hB4 bR3 b3
    go_wp2
    have bF := HF.out
    have gB := HB.out
    have gG := HG.out
    clear HF HB HG
    generalize (w3.setCell ⟨w.heap.size + 1, 0, none⟩ (.int .i64 x)).setCell ⟨w.heap.size + 1, 1, none⟩ (.int .i64 y) = WF at bF gB ⊢
    obtain ⟨z0, z1⟩ : WF.cell? ⟨w.heap.size + 1, 0, none⟩ = some (.int .i64 x) ∧ WF.cell? ⟨w.heap.size + 1, 1, none⟩ = some (.int .i64 y) := by simp [World.cell?, bF]
    exact bodyPost_ret (v := .tuple #[kv x y, .bool (rootB ks)]) (by simp [results, Try.results10, go_sem, z0, z1]) rfl ⟨by rw [gG.1, gG.2], gB⟩

end Go.Proofs.Ytjilbfohfgalkaa
/- What a rekey makes of a member: mathematics. -/
namespace Go.Proofs.Ytjilbfohfgalkaa
open Go.RowKit

theorem Rise.at {out : List K2} (h : Rise out) {i j : Nat} (hij : i < j) (hj : j < out.length) : Ah (kAt out i) (kAt out j) := by
  rw [kAt_get out i (by omega), kAt_get out j hj]
  exact List.pairwise_iff_getElem.1 h i j (by omega) hj hij
/-- The nodes of the newest keys rise. -/
theorem newK_up {out : List K2} (h : Rise out) : (newK out).Pairwise fun a b => a.1 < b.1 := by
  unfold newK newTo
  rw [List.pairwise_map, List.pairwise_filter]
  refine List.Pairwise.imp_of_mem ?_ List.pairwise_lt_range
  intro i j _ hj hij hl _
  have hj := List.mem_range.1 hj
  unfold lastAt at hl
  simp only [Bool.or_eq_true, Bool.not_eq_true', decide_eq_true_eq, decide_eq_false_iff_not] at hl
  have h1 := h.at (show i < i + 1 by omega) (by omega)
  have hne : ¬ (kAt out (i + 1)).1 = (kAt out i).1 := hl.resolve_left (by omega)
  have h2 : (kAt out (i + 1)).1 ≤ (kAt out j).1 := by
    by_cases e : i + 1 = j
    · rw [e]
      exact Int.le_refl _
    · have := h.at (show i + 1 < j by omega) hj
      unfold Ah at this
      omega
  unfold Ah at h1
  omega
theorem newK_mem {out : List K2} {k : K2} (h : k ∈ newK out) : k ∈ out := by
  unfold newK newTo at h
  obtain ⟨i, hi, rfl⟩ := List.mem_map.1 h
  have hi := List.mem_range.1 (List.mem_filter.1 hi).1
  rw [kAt_get out i hi]
  exact List.getElem_mem hi
theorem newK_node {out : List K2} : ∀ (n i : Nat), n = out.length - i → i < out.length → ∃ k ∈ newK out, k.1 = (kAt out i).1 := by
  intro n
  induction n with
  | zero => intro i h hi; omega
  | succ n ih =>
    intro i h hi
    cases hl : lastAt out i with
    | true => exact ⟨kAt out i, List.mem_map.2 ⟨i, List.mem_filter.2 ⟨List.mem_range.2 hi, hl⟩, rfl⟩, rfl⟩
    | false =>
      unfold lastAt at hl
      simp only [Bool.or_eq_false_iff, decide_eq_false_iff_not, Bool.not_eq_false', decide_eq_true_eq] at hl
      obtain ⟨k, hk, e⟩ := ih (i + 1) (by omega) (by omega)
      exact ⟨k, hk, e.trans hl.2⟩
theorem Lrn.ok {ks : List K2} {ws : List W4} (hk : knownB ks = true) (hw : wrapsB ws = true) {k : K2} (h : Lrn ks ws k) : okK k.1 k.2 = true := by
  rcases (Lrn.cases' k).1 h with h | ⟨x, hx, rfl, _⟩
  · exact known_ok hk k h
  · have := (wraps_ok hw).2 x hx
    unfold okW at this
    simp only [Bool.and_eq_true] at this
    first | exact this.1 | exact this.2
/-- The newest keys of what is learned are right, and one a node. -/
theorem newK_right {ks out : List K2} {ws : List W4} {id ep me : Int} (hm : memberB id me ks = true) (hr : rkB ep ws = true) (hl : LrnOut ks ws out) : memberB id ep (newK out) = true := by
  have hm' := hm
  unfold memberB headB at hm'
  simp only [Bool.and_eq_true] at hm'
  have hk := hm'.1.2.2
  have hw := rkB_wraps hr
  unfold LrnOut at hl
  rw [if_pos ⟨hk, hw⟩] at hl
  have hup := newK_up hl.1
  have hok : ∀ k ∈ newK out, okK k.1 k.2 = true := fun k h => Lrn.ok hk hw ((hl.2 k).1 (newK_mem h))
  have hrise : Rise (newK out) := hup.imp fun h => .inl h
  have hlen : (newK out).length ≤ 15 := by
    have := few_of_range 1 15 ((newK out).map Prod.fst) (by
      rw [List.Nodup, List.pairwise_map]
      exact hup.imp fun h e => by omega) (fun x hx => by
      obtain ⟨k, hk, rfl⟩ := List.mem_map.1 hx
      have := hok k hk
      simp only [okK, decide_eq_true_eq] at this
      omega)
    simpa using this
  unfold memberB headB
  simp only [Bool.and_eq_true]
  refine ⟨⟨hm'.1.1, ?_, knownB_of (by omega) hrise hok⟩, ?_⟩
  · unfold rkB at hr
    simp only [Bool.and_eq_true, decide_eq_true_eq] at hr ⊢
    omega
  · unfold nodesTo
    rw [List.all_eq_true]
    intro i hi
    have hi := List.mem_range.1 hi
    unfold nodeAt
    simp only [Bool.or_eq_true, decide_eq_true_eq, Bool.not_eq_true', decide_eq_false_iff_not]
    by_cases h0 : i = 0
    · exact .inl h0
    · refine .inr ?_
      rw [kAt_get _ (i - 1) (by omega), kAt_get _ i hi]
      have := List.pairwise_iff_getElem.1 hup (i - 1) i (by omega) hi (by omega)
      omega
theorem root_new {ks out : List K2} {ws : List W4} {id ep me : Int} (hm : memberB id me ks = true) (hr : rkB ep ws = true) (hl : LrnOut ks ws out) (he : rootK (newK out) ≠ rootK ks) : rootB (newK out) = true := by
  have hm' := hm
  unfold memberB headB at hm'
  simp only [Bool.and_eq_true] at hm'
  have hk := hm'.1.2.2
  have hw := rkB_wraps hr
  unfold LrnOut at hl
  rw [if_pos ⟨hk, hw⟩] at hl
  have hup := newK_up hl.1
  have hok : ∀ k ∈ newK out, okK k.1 k.2 = true := fun k h => Lrn.ok hk hw ((hl.2 k).1 (newK_mem h))
  cases hb : rootB (newK out) with
  | true => rfl
  | false =>
    have hks : rootB ks = true := by
      cases hks : rootB ks with
      | true => rfl
      | false => exact absurd (by simp [rootK, hb, hks]) he
    unfold rootB at hks
    simp only [Bool.and_eq_true, decide_eq_true_eq] at hks
    have hin : kAt ks 0 ∈ out := (hl.2 _).2 ((Lrn.cases' _).2 (.inl (by rw [kAt_get ks 0 hks.1]; exact List.getElem_mem hks.1)))
    obtain ⟨i, hi, hat⟩ := List.getElem_of_mem hin
    obtain ⟨k, hk1, hk2⟩ := newK_node _ i rfl hi
    rw [kAt_get out i hi, hat, hks.2] at hk2
    have hpos : 0 < (newK out).length := List.length_pos_of_mem hk1
    have h0 : (kAt (newK out) 0).1 = 1 := by
      rw [kAt_get _ 0 hpos]
      have h1 := hok _ (List.getElem_mem hpos)
      simp only [okK, decide_eq_true_eq] at h1
      obtain ⟨j, hj, hjk⟩ := List.getElem_of_mem hk1
      by_cases e : j = 0
      · subst e
        rw [hjk]
        exact hk2
      · have := List.pairwise_iff_getElem.1 hup 0 j hpos hj (by omega)
        rw [hjk] at this
        omega
    simp [rootB, hpos, h0] at hb
theorem ap_cases {id me ep I E r : Int} {ks L : List K2} {ws : List W4} (h : ApIs id me ks ep ws I E L r) :
    r = 1 ∨ (r ≠ 1 ∧ r ≠ 0 ∧ I = id ∧ E = me ∧ L = ks) ∨ (r = 0 ∧ I = id ∧ E = ep ∧ ep = me + 1 ∧ 0 ≤ me ∧ me ≤ 1000000000 ∧ memberB id me ks = true ∧ memberB id ep L = true ∧ rootB L = true ∧ rootK L ≠ rootK ks) := by
  obtain ⟨out, ho, hr⟩ := h
  unfold apRes at hr
  split at hr
  · rename_i hm
    split at hr
    · rename_i hk
      split at hr
      · simp only [Prod.mk.injEq] at hr
        obtain ⟨rfl, rfl, rfl, rfl⟩ := hr
        exact .inr (.inl ⟨by decide, by decide, rfl, rfl, rfl⟩)
      · rename_i hle
        split at hr
        · simp only [Prod.mk.injEq] at hr
          obtain ⟨rfl, rfl, rfl, rfl⟩ := hr
          exact .inr (.inl ⟨by decide, by decide, rfl, rfl, rfl⟩)
        · rename_i hlt
          have hl := ho ⟨hm, hk, hle, hlt⟩
          split at hr
          · simp only [Prod.mk.injEq] at hr
            obtain ⟨rfl, rfl, rfl, rfl⟩ := hr
            exact .inr (.inl ⟨by decide, by decide, rfl, rfl, rfl⟩)
          · rename_i hne
            simp only [Prod.mk.injEq] at hr
            obtain ⟨rfl, rfl, rfl, rfl⟩ := hr
            have hm' := hm
            unfold memberB headB at hm'
            simp only [Bool.and_eq_true, decide_eq_true_eq] at hm'
            exact .inr (.inr ⟨rfl, rfl, rfl, by omega, hm'.1.2.1.1, hm'.1.2.1.2, hm, newK_right hm hk hl, root_new hm hk hl hne, hne⟩)
    · simp only [Prod.mk.injEq] at hr
      obtain ⟨rfl, rfl, rfl, rfl⟩ := hr
      exact .inr (.inl ⟨by decide, by decide, rfl, rfl, rfl⟩)
  · simp only [Prod.mk.injEq] at hr
    exact .inl hr.2.2.2.symm
end Go.Proofs.Ytjilbfohfgalkaa
/- sameKeys of the laws, of two lists that are the same. -/
namespace Go.Proofs.Ytjilbfohfgalkaa
open Go.RowKit

set_option maxHeartbeats 1000000 in
theorem sameKeys_self {B C : Nat} {u v : Value} {xs : List (Int × Int)} {w : World} (hx : Keys B u xs w) (hy : Keys C v xs w) :
    Calls Try.prog 16 #[u, v] w fun e w' => e = .returned (.bool true) ∧ Below w.heap.size w w' := by
  obtain ⟨a, c, rfl, hm, hrow⟩ := hx.row
  obtain ⟨a', c', rfl, _, hrow'⟩ := hy.row
  clear hx hy
  unfold maxLen at hm
  have HR : Hid (KRow a xs w) := hrow
  have HR' : Hid (KRow a' xs w) := hrow'
  clear hrow hrow'
  generalize hn : xs.length = n at hm ⊢
  go_enter Try.func16, Try.ntmps16
  go_wp2
  go_loopw [5] (fun i wr => ∃ k : Nat, k ≤ n ∧ i = .int .i64 k ∧ ∃ q, wr = w.drewN q) (fun i _ => n - (intOf i).toNat)
  case atStart => exact ⟨0, Nat.zero_le _, rfl, 0, rfl⟩
  case round =>
    obtain ⟨k, hk, rfl, q, rfl⟩ := hrel
    by_cases hlt : k < n
    · have hlk : k < xs.length := by omega
      obtain ⟨g, ha, hg, hseg⟩ : ∃ g, a = some ⟨g, 0, none⟩ ∧ g < w.heap.size ∧ KSeg g 0 xs w := by
        rcases HR.out with e | e
        · rw [e] at hlk; simp at hlk
        · exact e
      obtain ⟨g', ha', hg', hseg'⟩ : ∃ g, a' = some ⟨g, 0, none⟩ ∧ g < w.heap.size ∧ KSeg g 0 xs w := by
        rcases HR'.out with e | e
        · rw [e] at hlk; simp at hlk
        · exact e
      subst ha ha'
      obtain ⟨c1, c2⟩ := hseg k hlk
      obtain ⟨d1, d2⟩ := hseg' k hlk
      simp only [Nat.zero_add] at c1 c2 d1 d2
      clear hseg hseg'
      generalize xs[k].1 = p at *
      generalize xs[k].2 = r at *
      go_wp2
      go_quiet (fail)
      go_wp2
      go_roundw
      case rel => exact ⟨k + 1, by omega, by go_num, q + nq, by simp⟩
      case measure => simp [intOf]; omega
    · go_wp2
      go_ret
      exact ⟨rfl, below_drewN' (Below.refl _ _) _⟩
end Go.Proofs.Ytjilbfohfgalkaa
/- laws.sameMember of two members that are the same. -/
namespace Go.Proofs.Ytjilbfohfgalkaa
open Go.RowKit

set_option maxHeartbeats 1000000 in
theorem sameMember_self {B C : Nat} {u v : Value} {xs : List (Int × Int)} {w : World} (id ep : Int) (hx : Keys B u xs w) (hy : Keys C v xs w) :
    Calls Try.prog 9 #[mv id ep u, mv id ep v] w fun e w' => e = .returned (.bool true) ∧ Below w.heap.size w w' := by
  have hB := two_below w (mb id ep u) (mb id ep v)
  obtain ⟨c0, c1, c2⟩ := cell3 w id ep u
  have d0 := cell_since c0 (one_below _ (mb id ep v))
  have d1 := cell_since c1 (one_below _ (mb id ep v))
  have d2 := cell_since c2 (one_below _ (mb id ep v))
  obtain ⟨e0, e1, e2⟩ := cell3 (w.alloc (mb id ep u)) id ep v
  have hs : (w.alloc (mb id ep u)).heap.size = w.heap.size + 1 := by simp
  rw [hs] at e0 e1 e2
  have X := hidOf' (keys_since hx hB)
  have Y := hidOf' (keys_since hy hB)
  have BB := hidOf' hB
  clear hx hy hB c0 c1 c2 hs
  go_enter Try.func9, Try.ntmps9
  go_wp2_with fail
  generalize (w.alloc (mb id ep u)).alloc (mb id ep v) = w2 at *
  refine (sameKeys_self X.out Y.out).mono ?_
  rintro e w3 ⟨rfl, b3⟩
  have BB3 := hidOf' (more BB.out b3)
  clear X Y BB d0 d1 d2 e0 e1 e2
  go_wp2
  go_ret
  exact ⟨rfl, BB3.out⟩
end Go.Proofs.Ytjilbfohfgalkaa
/- Small lemmas on worlds, members and the bundle's rows of keys. -/
namespace Go.Proofs.Ytjilbfohfgalkaa
open Go.RowKit

theorem three_below (w : World) (o1 o2 o3 : Obj) : Below w.heap.size w (((w.alloc o1).alloc o2).alloc o3) := (two_below w o1 o2).alloc (by simp; omega) o3
theorem memberB_few {id me : Int} {ks : List (Int × Int)} (h : memberB id me ks = true) : ks.length ≤ 200 := by
  unfold memberB headB knownB at h
  simp only [Bool.and_eq_true, decide_eq_true_eq] at h
  exact h.1.2.2.1
theorem later4M {w W W' : World} {p1 p2 p3 p4 : Addr} {v1 v2 v3 v4 : Value} (h : W.cell? p1 = some v1 ∧ W.cell? p2 = some v2 ∧ W.cell? p3 = some v3 ∧ W.cell? p4 = some v4 ∧ Below w.heap.size w W) (hb : Below W.heap.size W W') :
    W'.cell? p1 = some v1 ∧ W'.cell? p2 = some v2 ∧ W'.cell? p3 = some v3 ∧ W'.cell? p4 = some v4 ∧ Below w.heap.size w W' := ⟨cell_since h.1 hb, cell_since h.2.1 hb, cell_since h.2.2.1 hb, cell_since h.2.2.2.1 hb, h.2.2.2.2.trans (hb.mono h.2.2.2.2.size)⟩
theorem grown_any {W W' : World} (h : Below W.heap.size W W') (r : Option Nat) : W.grownBy W' r := ⟨h.os, h.tape, h.output, h.size, fun k hk _ => h.block k hk⟩
theorem grown_d (W : World) (row : Option Nat) : W.grownBy W.drew row := ⟨rfl, rfl, rfl, Nat.le_refl _, fun _ _ _ => rfl⟩
theorem later6 {w W W' : World} {p1 p2 p3 p4 p5 p6 : Addr} {v1 v2 v3 v4 v5 v6 : Value} (h : W.cell? p1 = some v1 ∧ W.cell? p2 = some v2 ∧ W.cell? p3 = some v3 ∧ W.cell? p4 = some v4 ∧ W.cell? p5 = some v5 ∧ W.cell? p6 = some v6 ∧ Below w.heap.size w W) (hb : Below W.heap.size W W') :
    W'.cell? p1 = some v1 ∧ W'.cell? p2 = some v2 ∧ W'.cell? p3 = some v3 ∧ W'.cell? p4 = some v4 ∧ W'.cell? p5 = some v5 ∧ W'.cell? p6 = some v6 ∧ Below w.heap.size w W' :=
  ⟨cell_later2 h.1 hb, cell_later2 h.2.1 hb, cell_later2 h.2.2.1 hb, cell_later2 h.2.2.2.1 hb, cell_later2 h.2.2.2.2.1 hb, cell_later2 h.2.2.2.2.2.1 hb, h.2.2.2.2.2.2.trans (hb.mono h.2.2.2.2.2.2.size)⟩
theorem six {w W : World} {p1 p2 p3 p4 p5 p6 : Addr} {v1 v2 v3 v4 v5 v6 : Value} (h : W.cell? p1 = some v1 ∧ W.cell? p2 = some v2 ∧ W.cell? p3 = some v3 ∧ W.cell? p4 = some v4 ∧ W.cell? p5 = some v5 ∧ W.cell? p6 = some v6 ∧ Below w.heap.size w W) : Below w.heap.size w W := h.2.2.2.2.2.2
theorem keysSet3 {B C p : Nat} {v : Value} {ks : List (Int × Int)} {W : World} (h : Keys B v ks W) (hp : p < B) (hC : C ≤ B) (x y z : Value) : Keys C v ks (((W.setCell ⟨p, 0, none⟩ x).setCell ⟨p, 1, none⟩ y).setCell ⟨p, 2, none⟩ z) := by
  have hne : ∀ k, some p = some k → v.ownBlock ≠ some k := fun k e e' => by
    cases e
    have := (h.lt _ e').1
    omega
  exact (((h.kept (grown_set _ _ _ _) hne).kept (grown_set _ _ _ _) hne).kept (grown_set _ _ _ _) hne).mono hC
abbrev rK (B : Nat) (v : Value) (ks : List (Int × Int)) : RowF := ⟨B, 36, 2, v, ks.length, kcells ks⟩
theorem Kit.k0 {w0 W : World} {cs : List (Addr × Value)} {rs : List RowF} {B : Nat} {v : Value} {ks : List (Int × Int)} (K : Kit w0 cs (rK B v ks :: rs) W) : Keys B v ks W := K.row _ (.head _)
theorem Kit.k1 {w0 W : World} {cs : List (Addr × Value)} {rs : List RowF} {x0 : RowF} {B : Nat} {v : Value} {ks : List (Int × Int)} (K : Kit w0 cs (x0 :: rK B v ks :: rs) W) : Keys B v ks W := K.row _ (.tail _ (.head _))
theorem Kit.k2 {w0 W : World} {cs : List (Addr × Value)} {rs : List RowF} {x0 x1 : RowF} {B : Nat} {v : Value} {ks : List (Int × Int)} (K : Kit w0 cs (x0 :: x1 :: rK B v ks :: rs) W) : Keys B v ks W := K.row _ (.tail _ (.tail _ (.head _)))
theorem Kit.k3 {w0 W : World} {cs : List (Addr × Value)} {rs : List RowF} {x0 x1 x2 : RowF} {B : Nat} {v : Value} {ks : List (Int × Int)} (K : Kit w0 cs (x0 :: x1 :: x2 :: rK B v ks :: rs) W) : Keys B v ks W := K.row _ (.tail _ (.tail _ (.tail _ (.head _))))
theorem Kit.k4 {w0 W : World} {cs : List (Addr × Value)} {rs : List RowF} {x0 x1 x2 x3 : RowF} {B : Nat} {v : Value} {ks : List (Int × Int)} (K : Kit w0 cs (x0 :: x1 :: x2 :: x3 :: rK B v ks :: rs) W) : Keys B v ks W := K.row _ (.tail _ (.tail _ (.tail _ (.tail _ (.head _)))))
theorem Kit.k5 {w0 W : World} {cs : List (Addr × Value)} {rs : List RowF} {x0 x1 x2 x3 x4 : RowF} {B : Nat} {v : Value} {ks : List (Int × Int)} (K : Kit w0 cs (x0 :: x1 :: x2 :: x3 :: x4 :: rK B v ks :: rs) W) : Keys B v ks W := K.row _ (.tail _ (.tail _ (.tail _ (.tail _ (.tail _ (.head _))))))
theorem Kit.k6 {w0 W : World} {cs : List (Addr × Value)} {rs : List RowF} {x0 x1 x2 x3 x4 x5 : RowF} {B : Nat} {v : Value} {ks : List (Int × Int)} (K : Kit w0 cs (x0 :: x1 :: x2 :: x3 :: x4 :: x5 :: rK B v ks :: rs) W) : Keys B v ks W := K.row _ (.tail _ (.tail _ (.tail _ (.tail _ (.tail _ (.tail _ (.head _)))))))
theorem Kit.k7 {w0 W : World} {cs : List (Addr × Value)} {rs : List RowF} {x0 x1 x2 x3 x4 x5 x6 : RowF} {B : Nat} {v : Value} {ks : List (Int × Int)} (K : Kit w0 cs (x0 :: x1 :: x2 :: x3 :: x4 :: x5 :: x6 :: rK B v ks :: rs) W) : Keys B v ks W := K.row _ (.tail _ (.tail _ (.tail _ (.tail _ (.tail _ (.tail _ (.tail _ (.head _))))))))
theorem Kit.k8 {w0 W : World} {cs : List (Addr × Value)} {rs : List RowF} {x0 x1 x2 x3 x4 x5 x6 x7 : RowF} {B : Nat} {v : Value} {ks : List (Int × Int)} (K : Kit w0 cs (x0 :: x1 :: x2 :: x3 :: x4 :: x5 :: x6 :: x7 :: rK B v ks :: rs) W) : Keys B v ks W := K.row _ (.tail _ (.tail _ (.tail _ (.tail _ (.tail _ (.tail _ (.tail _ (.tail _ (.head _)))))))))
end Go.Proofs.Ytjilbfohfgalkaa
/- (*Member).apply of the program. -/
namespace Go.Proofs.Ytjilbfohfgalkaa
open Go.RowKit

theorem drewN_below (W : World) (q : Nat) : Below W.heap.size W (W.drewN q) := below_drewN' (Below.refl _ _) q
theorem later2A {w W W' : World} {p1 p2 : Addr} {v1 v2 : Value} (h : W.cell? p1 = some v1 ∧ W.cell? p2 = some v2 ∧ Below w.heap.size w W) (hb : Below W.heap.size W W') : W'.cell? p1 = some v1 ∧ W'.cell? p2 = some v2 ∧ Below w.heap.size w W' :=
  ⟨cell_since h.1 hb, cell_since h.2.1 hb, more h.2.2 hb⟩

set_option maxRecDepth 100000 in
set_option maxHeartbeats 4000000 in
theorem apply_any {B C p : Nat} {x v : Value} {ks : List K2} {ws : List W4} {w : World} (id me ep : Int) (hp : w.heap[p]? = some (mb id me v)) (hk : Keys B v ks w) (hx : Wraps C x ws w) (hmb : memberB id me ks = true) :
    Calls Try.prog 22 #[.pointer (some ⟨p, 0, none⟩), rv ep x] w fun e w' => ∃ (E : Int) (L : List K2) (r : Int), ApIs id me ks ep ws id E L r ∧ e = .returned (.int .i64 r) ∧ ((r ≠ 0 ∧ E = me ∧ L = ks ∧ Below w.heap.size w w') ∨ (r = 0 ∧ ∃ a c, w'.heap[p]? = some (mb id E (.slice a L.length c)) ∧ Keys w.heap.size (.slice a L.length c) L w' ∧ w.grownBy w' (some p))) := by
  have hpl : p < w.heap.size := (Array.getElem?_eq_some_iff.1 hp).1
  have hB1 := one_below w (rb ep x)
  obtain ⟨c0, c1⟩ := rcell2 w ep x
  have hp1 := (hB1.block p hpl).trans hp
  have X1 := hidC (wrapsSince hx hB1)
  have K1 := hidC (keysSince hk hB1)
  have HMB := hidC hmb
  have hme : 0 ≤ me ∧ me ≤ 1000000000 := by
    unfold memberB headB at hmb
    simp only [Bool.and_eq_true, decide_eq_true_eq] at hmb
    exact hmb.1.2.1
  clear hx hk hmb
  go_enter Try.func22, Try.ntmps22
  go_wp2_with fail
  generalize w.alloc (rb ep x) = w1 at *
  refine (rekeyOk_any ep X1.out).mono ?_
  rintro e w2 ⟨rfl, b2⟩
  have B2 := hidC (more hB1 b2)
  have hp2 := (b2.block p (by have := hB1.size; omega)).trans hp1
  have d0 := cell_since c0 b2
  have d1 := cell_since c1 b2
  have X2 := hidC (wrapsSince X1.out b2)
  have K2' := hidC (keysSince K1.out b2)
  clear c0 c1 X1 K1 hB1 b2 hp hp1
  cases hok : rkB ep ws with
  | false =>
    have HA := hidC (ApIs.form HMB.out hok)
    clear hok
    go_wp2
    go_ret
    exact ⟨_, _, _, HA.out, rfl, .inl ⟨by decide, rfl, rfl, B2.out⟩⟩
  | true =>
    have HOK := hidC hok
    have hep : 1 ≤ ep ∧ ep ≤ 1000000000 := by
      unfold rkB at hok
      simp only [Bool.and_eq_true, decide_eq_true_eq] at hok
      exact hok.1
    clear hok
    obtain ⟨⟨q0, q1, q2⟩, f0, f1, f2⟩ := box3 hp2
    have HP2 := hidC hp2
    clear hp2
    by_cases hold : ep ≤ me
    · have HA := hidC (ApIs.old HMB.out HOK.out hold)
      go_wp2
      go_quiet (fail)
      go_wp2
      go_ret
      exact ⟨_, _, _, HA.out, rfl, .inl ⟨by decide, rfl, rfl, more B2.out (drewN_below _ _)⟩⟩
    · have HO : Hid (¬ ep ≤ me) := hold
      by_cases hgap : me + 1 < ep
      · have HA := hidC (ApIs.gap HMB.out HOK.out hold hgap)
        go_wp2
        go_quiet (fail)
        have b3 := drewN_below w2 nq
        have d0 := cell_since d0 b3
        have q1 := cell_since q1 b3
        have B3 := hidC (more B2.out b3)
        generalize w2.drewN nq = w3 at *
        clear b3
        go_wp2
        go_quiet (fail)
        go_wp2
        go_ret
        exact ⟨_, _, _, HA.out, rfl, .inl ⟨by decide, rfl, rfl, more B3.out (drewN_below _ _)⟩⟩
      · have HG : Hid (¬ me + 1 < ep) := hgap
        go_wp2
        go_quiet (fail)
        have b3 := drewN_below w2 nq
        have d0 := cell_since d0 b3
        have d1 := cell_since d1 b3
        have q1 := cell_since q1 b3
        have q2 := cell_since q2 b3
        have HP3 := hidC (blkSince HP2.out b3)
        have B3 := hidC (more B2.out b3)
        have X3 := hidC (wrapsSince X2.out b3)
        have K3 := hidC (keysSince K2'.out b3)
        generalize w2.drewN nq = w3 at *
        clear b3 HP2 B2 X2 K2' f0 f1 f2 q0
        go_wp2
        go_quiet (fail)
        have b4 := drewN_below w3 nq
        have d0 := cell_since d0 b4
        have d1 := cell_since d1 b4
        have q1 := cell_since q1 b4
        have q2 := cell_since q2 b4
        have HP4 := hidC (blkSince HP3.out b4)
        have B4 := hidC (more B3.out b4)
        have X4 := hidC (wrapsSince (wrapsSince X3.out b4) (Below.refl _ _).drew)
        have K4 := hidC (keysSince (keysSince K3.out b4) (Below.refl _ _).drew)
        have KO := hidC (keysSince K3.out b4)
        generalize w3.drewN nq = w4 at *
        clear b4 HP3 B3 X3 K3
        go_wp2
        go_region_held3 (fun W => W.cell? ⟨p, 2, none⟩ = some v ∧ W.cell? ⟨w.heap.size, 1, none⟩ = some x ∧ Below w4.heap.size w4 W)
          (first | exact ⟨q2, d1, (Below.refl _ _).drew⟩ | exact later2A ‹_› b5 | exact later2A ‹_› b6 | assumption)
          (first
            | (go_at_call 49; refine (learned_any K4.out X4.out).mono ?_; rintro e w5 ⟨v5, out, rfl, k5, hlr, b5⟩; have HLr := hidC hlr; have hfew := hlr.few; clear hlr)
            | (go_at_call 48; refine (newest_any k5 (by omega)).mono ?_; rintro e w6 ⟨a6, c6, rfl, k6, b6⟩))
        all_goals
          rename_i hHeld
          obtain ⟨_, _, hbW⟩ := hHeld
          have b6' : Below w4.heap.size w4 w6 := hbW
          have hs6 := b6'.size
          have hs4 := B4.out.size
          have hs5 := b5.size
          have K6 := hidC (k6.mono (show w4.heap.size ≤ w5.heap.size from hs5))
          have d0 := cell_since d0 b6'
          have q1 := cell_since q1 b6'
          have q2 := cell_since q2 b6'
          have HP6 := hidC (blkSince HP4.out b6')
          have B6 := hidC (more B4.out b6')
          have KO6 := hidC (keysSince KO.out b6')
          clear b5 b6 k5 k6 hbW b6' KO K4 X4 HP4 d1
          go_wp2_with fail
          refine (rootKey_any KO6.out).mono ?_
          generalize hro : rootK ks = ro at *
          obtain ⟨h1, h2⟩ := ro
          rintro e w7 ⟨rfl, b7⟩
          have b8 := b7.alloc b7.size (kb h1 h2)
          obtain ⟨g0, g1⟩ : (w7.alloc (kb h1 h2)).cell? ⟨w7.heap.size, 0, none⟩ = some (.int .i64 h1) ∧ (w7.alloc (kb h1 h2)).cell? ⟨w7.heap.size, 1, none⟩ = some (.int .i64 h2) := by simp
          have HRo := hidC hro
          have hs7 := b7.size
          have K8 := hidC (keysSince K6.out b8)
          have d0 := cell_since d0 b8
          have q1 := cell_since q1 b8
          have q2 := cell_since q2 b8
          have HP8 := hidC (blkSince HP6.out b8)
          have B8 := hidC (more B6.out b8)
          clear b7 b8 hro K6 HP6 B6 KO6
          go_wp2_with fail
          generalize w7.alloc (kb h1 h2) = w8 at *
          refine (rootKey_any K8.out).mono ?_
          generalize hrn : rootK (newK out) = rn at *
          obtain ⟨n1, n2⟩ := rn
          rintro e w9 ⟨rfl, b9⟩
          have b10 := b9.alloc b9.size (kb n1 n2)
          obtain ⟨i0, i1⟩ : (w9.alloc (kb n1 n2)).cell? ⟨w9.heap.size, 0, none⟩ = some (.int .i64 n1) ∧ (w9.alloc (kb n1 n2)).cell? ⟨w9.heap.size, 1, none⟩ = some (.int .i64 n2) := by simp
          have HRn := hidC hrn
          have K10 := hidC (keysSince K8.out b10)
          have g0 := cell_since g0 b10
          have g1 := cell_since g1 b10
          have d0 := cell_since d0 b10
          have HP10 := hidC (blkSince HP8.out b10)
          have B10 := hidC (more B8.out b10)
          have hs10 := b10.size
          clear b9 b10 hrn K8 HP8 B8 q1 q2
          have hall : (n1 = h1 ∧ n2 = h2) ∨ (n1 = h1 ∧ (n2 == h2) = false) ∨ (n1 == h1) = false := by
            by_cases e1 : n1 = h1
            · by_cases e2 : n2 = h2
              · exact .inl ⟨e1, e2⟩
              · exact .inr (.inl ⟨e1, by simpa using e2⟩)
            · exact .inr (.inr (by simpa using e1))
          have HA : Hid ((n1 = h1 ∧ n2 = h2 → ApIs id me ks ep ws id me ks 5) ∧ (¬ (n1 = h1 ∧ n2 = h2) → ApIs id me ks ep ws id ep (newK out) 0)) := by
            refine ⟨fun h => ApIs.lost HMB.out HOK.out (by have := HO.out; omega) (by have := HG.out; omega) HLr.out ?_, fun h => ApIs.done HMB.out HOK.out (by have := HO.out; omega) (by have := HG.out; omega) HLr.out ?_⟩
            · rw [HRn.out, HRo.out, h.1, h.2]
            · rw [HRn.out, HRo.out]
              intro e
              simp only [Prod.mk.injEq] at e
              exact h e
          rcases hall with ⟨e1, e2⟩ | hne
          · have HA' := hidC (HA.out.1 ⟨e1, e2⟩)
            subst e1 e2
            clear HA
            go_wp2
            go_ret
            exact ⟨_, _, _, HA'.out, rfl, .inl ⟨by decide, rfl, rfl, B10.out⟩⟩
          · have HA' := hidC (HA.out.2 (fun h => by rcases hne with h' | h' <;> simp_all))
            clear HA
            generalize hL : newK out = L at *
            clear hL
            have hlt := K10.out.lt
            have HK3 := hidC (K10.out.mono hs4)
            have HLt := hidC (show ∀ j, (Value.slice a6 L.length c6).ownBlock = some j → w4.heap.size ≤ j from fun j e => (hlt j e).1)
            have hp10 := HP10.out
            obtain ⟨⟨q0, q1, q2⟩, f0, f1, f2⟩ := box3 hp10
            clear hp10 hlt K10
            rcases hne with ⟨e1, e2⟩ | e1
            all_goals
              first | subst e1 | skip
              go_wp2_with fail
              generalize w9.alloc _ = w11 at *
              go_wp2
              go_region
              all_goals
                have HF := hidC (show ((w11.setCell ⟨p, 2, none⟩ (.slice a6 L.length c6)).setCell ⟨p, 1, none⟩ (.int .i64 ep)).drew.heap[p]? = some (mb id ep (.slice a6 L.length c6)) from box3_set1 (box3_set2 HP10.out _) _)
                have HKF := hidC (show Keys w.heap.size (.slice a6 L.length c6) L ((w11.setCell ⟨p, 2, none⟩ (.slice a6 L.length c6)).setCell ⟨p, 1, none⟩ (.int .i64 ep)).drew from ((HK3.out.kept (grown_set w11 p 2 _) (fun k e e' => by cases e; have := HLt.out _ e'; omega)).kept (grown_set _ p 1 _) (fun k e e' => by cases e; have := HLt.out _ e'; omega)).kept (grown_d _ none) (fun k e => by cases e))
                have HGF := hidC (show w.grownBy ((w11.setCell ⟨p, 2, none⟩ (.slice a6 L.length c6)).setCell ⟨p, 1, none⟩ (.int .i64 ep)).drew (some p) from (((grown_any B10.out (some p)).trans (grown_set w11 p 2 _)).trans (grown_set _ p 1 _)).trans (grown_d _ _))
                generalize ((w11.setCell ⟨p, 2, none⟩ (.slice a6 L.length c6)).setCell ⟨p, 1, none⟩ (.int .i64 ep)).drew = WF at HF HKF HGF ⊢
                go_wp2
                go_ret
                exact ⟨_, _, _, HA'.out, rfl, .inr ⟨rfl, a6, c6, HF.out, HKF.out, HGF.out⟩⟩
end Go.Proofs.Ytjilbfohfgalkaa
/- Applied of the program. -/
namespace Go.Proofs.Ytjilbfohfgalkaa
open Go.RowKit

set_option maxRecDepth 100000 in
set_option maxHeartbeats 2000000 in
theorem applied_any {B C : Nat} {x v : Value} {ks : List K2} {ws : List W4} {w : World} (id me ep : Int) (h : Keys B v ks w) (hx : Wraps C x ws w) :
    Calls Try.prog 7 #[mv id me v, rv ep x] w fun e w' => ∃ (I E : Int) (L : List K2) (r : Int) (a : Option Addr) (c : Nat), ApIs id me ks ep ws I E L r ∧ e = .returned (.tuple #[mv I E (.slice a L.length c), .int .i64 r]) ∧ Keys w.heap.size (.slice a L.length c) L w' ∧ Below w.heap.size w w' := by
  have hB1 := three_below w (mb id me v) (rb ep x) (mb 0 0 (.slice none 0 0))
  obtain ⟨m0, m1, m2⟩ := cell3 w id me v
  have m0 := cell_since (cell_since m0 (one_below _ (rb ep x))) (one_below _ (mb 0 0 (.slice none 0 0)))
  have m1 := cell_since (cell_since m1 (one_below _ (rb ep x))) (one_below _ (mb 0 0 (.slice none 0 0)))
  have m2 := cell_since (cell_since m2 (one_below _ (rb ep x))) (one_below _ (mb 0 0 (.slice none 0 0)))
  obtain ⟨s0, s1⟩ := rcell2 (w.alloc (mb id me v)) ep x
  have s0 := cell_since s0 (one_below _ (mb 0 0 (.slice none 0 0)))
  have s1 := cell_since s1 (one_below _ (mb 0 0 (.slice none 0 0)))
  simp only [World.size_alloc] at s0 s1
  have t2 : (((w.alloc (mb id me v)).alloc (rb ep x)).alloc (mb 0 0 (.slice none 0 0))).heap[w.heap.size + 1 + 1]? = some (mb 0 0 (.slice none 0 0)) := by
    have := heap_alloc_new ((w.alloc (mb id me v)).alloc (rb ep x)) (mb 0 0 (.slice none 0 0))
    simpa using this
  have hs1 : (((w.alloc (mb id me v)).alloc (rb ep x)).alloc (mb 0 0 (.slice none 0 0))).heap.size = w.heap.size + 1 + 1 + 1 := by simp
  have K1 := hidC (keysSince h hB1)
  have X1 := hidC (wrapsSince hx hB1)
  clear h hx
  go_enter Try.func7, Try.ntmps7
  go_wp2_with fail
  generalize ((w.alloc (mb id me v)).alloc (rb ep x)).alloc (mb 0 0 (.slice none 0 0)) = w1 at *
  refine (memberOk_any id me K1.out).mono ?_
  rintro e w2 ⟨rfl, b2⟩
  have B2 := hidC (more hB1 b2)
  have hs2 := b2.size
  have t2 := (b2.block _ (by omega)).trans t2
  have m0 := cell_since m0 b2
  have m1 := cell_since m1 b2
  have m2 := cell_since m2 b2
  have s0 := cell_since s0 b2
  have s1 := cell_since s1 b2
  have K2' := hidC (keysSince K1.out b2)
  have X2 := hidC (wrapsSince X1.out b2)
  clear K1 X1 hB1 b2
  cases hok : memberB id me ks with
  | false =>
    obtain ⟨⟨q0, q1, q2⟩, f0, f1, f2⟩ := box3 t2
    have HR := hidC (ApIs.no (ep := ep) (ws := ws) hok)
    have HF := hidC (box3_set2 (box3_set1 (box3_set0 t2 (.int .i64 0)) (.int .i64 0)) (.slice none 0 0))
    have HB := hidC (show Below w.heap.size w (((w2.setCell ⟨w.heap.size + 1 + 1, 0, none⟩ (.int .i64 0)).setCell ⟨w.heap.size + 1 + 1, 1, none⟩ (.int .i64 0)).setCell ⟨w.heap.size + 1 + 1, 2, none⟩ (.slice none 0 0)) from ((B2.out.setCell (by simp; omega) _).setCell (by simp; omega) _).setCell (by simp; omega) _)
    go_wp2
    have bF := HF.out
    have gB := HB.out
    generalize ((w2.setCell ⟨w.heap.size + 1 + 1, 0, none⟩ (.int .i64 0)).setCell ⟨w.heap.size + 1 + 1, 1, none⟩ (.int .i64 0)).setCell ⟨w.heap.size + 1 + 1, 2, none⟩ (.slice none 0 0) = WF at bF gB ⊢
    obtain ⟨⟨z0, z1, z2⟩, _, _, _⟩ := box3 bF
    exact bodyPost_ret (v := .tuple #[mv 0 0 (.slice none 0 0), .int .i64 1]) (by simp [results, Try.results7, go_sem, z0, z1, z2]) rfl ⟨0, 0, [], 1, none, 0, HR.out, rfl, noKeys _ _, gB⟩
  | true =>
    have hfew := memberB_few hok
    go_wp2_with fail
    refine (ownMember_any id me K2'.out (by omega)).mono ?_
    rintro e w3 ⟨p, a3, c3, rfl, hp, k3, hpw, hne, b3⟩
    have B3 := hidC (more B2.out b3)
    have hs3 := b3.size
    have t3 := (b3.block _ (by omega)).trans t2
    have s0 := cell_since s0 b3
    have s1 := cell_since s1 b3
    have X3 := hidC (wrapsSince X2.out b3)
    have K3 := hidC k3
    have HNE := hidC hne
    clear b3 k3 hne K2' X2 B2 t2 m0 m1 m2
    have hpl : p < w3.heap.size := (Array.getElem?_eq_some_iff.1 hp).1
    go_wp2_with fail
    refine (apply_any id me ep hp K3.out X3.out hok).mono ?_
    rintro e w4 ⟨E, L, cc, HR, rfl, hcase⟩
    obtain ⟨a4, c4, hp4, K4, t4, B4⟩ : ∃ (a4 : Option Addr) (c4 : Nat), w4.heap[p]? = some (mb id E (.slice a4 L.length c4)) ∧ Hid (Keys w2.heap.size (.slice a4 L.length c4) L w4) ∧ w4.heap[w.heap.size + 1 + 1]? = some (mb 0 0 (.slice none 0 0)) ∧ Hid (Below w.heap.size w w4) := by
      rcases hcase with ⟨hc, rfl, rfl, b4⟩ | ⟨hc, a4, c4, hp4, k4, g4⟩
      · exact ⟨a3, c3, (b4.block p hpl).trans hp, keysSince K3.out b4, (b4.block _ (by omega)).trans t3, more B3.out b4⟩
      · exact ⟨a4, c4, hp4, k4.mono hs3, (g4.block _ (by omega) (fun e => by cases e; omega)).trans t3, B3.out.grown g4 B3.out.size (fun k e => by cases e; omega)⟩
    have HR := hidC HR
    have hlt := K4.out.lt
    clear hcase K3 HNE X3 s0 s1 B3 t3 hp
    obtain ⟨⟨q0, q1, q2⟩, f0, f1, f2⟩ := box3 t4
    obtain ⟨⟨u0, u1, u2⟩, v0, v1, v2⟩ := box3 hp4
    have hsw : w.heap.size + 1 + 1 < w2.heap.size := by omega
    have HF := hidC (box3_set2 (box3_set1 (box3_set0 t4 (.int .i64 id)) (.int .i64 E)) (.slice a4 L.length c4))
    have HB := hidC (show Below w.heap.size w (((w4.setCell ⟨w.heap.size + 1 + 1, 0, none⟩ (.int .i64 id)).setCell ⟨w.heap.size + 1 + 1, 1, none⟩ (.int .i64 E)).setCell ⟨w.heap.size + 1 + 1, 2, none⟩ (.slice a4 L.length c4)) from ((B4.out.setCell (by simp; omega) _).setCell (by simp; omega) _).setCell (by simp; omega) _)
    have HK := hidC (show Keys w.heap.size (.slice a4 L.length c4) L (((w4.setCell ⟨w.heap.size + 1 + 1, 0, none⟩ (.int .i64 id)).setCell ⟨w.heap.size + 1 + 1, 1, none⟩ (.int .i64 E)).setCell ⟨w.heap.size + 1 + 1, 2, none⟩ (.slice a4 L.length c4)) from (((K4.out.mono (show w.heap.size ≤ w2.heap.size by omega)).kept (grown_set w4 (w.heap.size + 1 + 1) 0 _) (fun k e e' => by cases e; have := (hlt _ e').1; omega)).kept (grown_set _ (w.heap.size + 1 + 1) 1 _) (fun k e e' => by cases e; have := (hlt _ e').1; omega)).kept (grown_set _ (w.heap.size + 1 + 1) 2 _) (fun k e e' => by cases e; have := (hlt _ e').1; omega))
    clear hlt K4 B4 t4 hp4
    go_wp2
    have bF := HF.out
    have gB := HB.out
    have gK := HK.out
    generalize ((w4.setCell ⟨w.heap.size + 1 + 1, 0, none⟩ (.int .i64 id)).setCell ⟨w.heap.size + 1 + 1, 1, none⟩ (.int .i64 E)).setCell ⟨w.heap.size + 1 + 1, 2, none⟩ (.slice a4 L.length c4) = WF at bF gB gK ⊢
    obtain ⟨⟨z0, z1, z2⟩, _, _, _⟩ := box3 bF
    exact bodyPost_ret (v := .tuple #[mv id E (.slice a4 L.length c4), .int .i64 cc]) (by simp [results, Try.results7, go_sem, z0, z1, z2]) rfl ⟨id, E, L, cc, a4, c4, HR.out, rfl, gK, gB⟩
end Go.Proofs.Ytjilbfohfgalkaa
