
/- What the exact laws' helpers on members do: toMember, szMember, eqMember; the root's key of keys. -/
import Derived.Test.YtplinjepeahahabMem2
import Derived.Test.YtplinjepeahahabToKeys
import Derived.Test.YtplinjepeahahabBox3
namespace Go.Proofs.Ytplinjepeahahab
open Go.RowKit

theorem since {B : Nat} {v : Value} {ks : List (Int × Int)} {W W' : World} (h : Keys B v ks W) (hb : Below W.heap.size W W') : Keys B v ks W' := h.below hb (fun k e => (h.lt k e).2)
abbrev lmb (id ep : Int) (v : Value) : Obj := .cells #[.int .i64 id, .int .i64 ep, v] 24
theorem szMember_any (id ep : Int) (a : Option Addr) (n c : Nat) (l : Int) (w : World) (hl : 0 ≤ l) (hl2 : l ≤ 1048576) (hn : n ≤ maxLen) :
    Calls Try.prog 5 #[mv id ep (.slice a n c), .int .i64 l] w fun e w' => e = .returned (.int .i64 (if l - (n : Int) < 0 then -1 else l - (n : Int))) ∧ w' = w.alloc (lmb id ep (.slice a n c)) := by
  by_cases h : l - (n : Int) < 0
  · have hif : (if l - (n : Int) < 0 then (-1 : Int) else l - (n : Int)) = -1 := if_pos h
    go_enter Try.func5, Try.ntmps5
    go_wp2_with fail
    refine (szKeyS_any _ _ _ _ _ hl hl2 hn).mono ?_
    rintro e w' ⟨rfl, hww⟩
    subst w'
    rw [hif]
    go_wp2
    go_ret
    exact ⟨rfl, rfl⟩
  · have hif : (if l - (n : Int) < 0 then (-1 : Int) else l - (n : Int)) = l - (n : Int) := if_neg h
    go_enter Try.func5, Try.ntmps5
    go_wp2_with fail
    refine (szKeyS_any _ _ _ _ _ hl hl2 hn).mono ?_
    rintro e w' ⟨rfl, hww⟩
    subst w'
    rw [hif]
    go_wp2
    go_ret
    exact ⟨rfl, rfl⟩

set_option maxHeartbeats 1000000 in
theorem toMember_any (id ep : Int) (v : Value) (ks : List (Int × Int)) (w : World) (h : InKeys v ks w) (hn : ks.length ≤ 1048576) :
    Calls Try.prog 7 #[mv id ep v] w fun e w' => ∃ v', e = .returned (mv id ep v') ∧ Keys w.heap.size v' ks w' ∧ Below w.heap.size w w' := by
  have hB0 : Below w.heap.size w (((w.alloc (lmb id ep v)).alloc (mb 0 0 (.slice none 0 0))).alloc (mb id ep (.slice none 0 0))) := (two_below w _ _).alloc (by simp; omega) _
  have b1 : (((w.alloc (lmb id ep v)).alloc (mb 0 0 (.slice none 0 0))).alloc (mb id ep (.slice none 0 0))).heap[w.heap.size + 1]? = some (mb 0 0 (.slice none 0 0)) := by
    rw [Below.heap_alloc _ _ _ (by simp)]
    have := heap_alloc_new (w.alloc (lmb id ep v)) (mb 0 0 (.slice none 0 0))
    simpa using this
  have b2 : (((w.alloc (lmb id ep v)).alloc (mb 0 0 (.slice none 0 0))).alloc (mb id ep (.slice none 0 0))).heap[w.heap.size + 1 + 1]? = some (mb id ep (.slice none 0 0)) := by
    have := heap_alloc_new ((w.alloc (lmb id ep v)).alloc (mb 0 0 (.slice none 0 0))) (mb id ep (.slice none 0 0))
    simpa using this
  have hs0 : (((w.alloc (lmb id ep v)).alloc (mb 0 0 (.slice none 0 0))).alloc (mb id ep (.slice none 0 0))).heap.size = w.heap.size + 1 + 1 + 1 := by simp
  have HI : Hid (InKeys v ks (((w.alloc (lmb id ep v)).alloc (mb 0 0 (.slice none 0 0))).alloc (mb id ep (.slice none 0 0)))) := h.below hB0 (Nat.le_refl _)
  clear h
  go_enter Try.func7, Try.ntmps7
  go_wp2_with fail
  generalize ((w.alloc (lmb id ep v)).alloc (mb 0 0 (.slice none 0 0))).alloc (mb id ep (.slice none 0 0)) = w0 at hB0 b1 b2 hs0 HI ⊢
  refine (toKeyS_any v ks w0 HI.out hn).mono ?_
  rintro e w2 ⟨v', rfl, _, k2, hb2⟩
  obtain ⟨a', c', rfl, _, _⟩ := k2.row
  generalize hv' : Value.slice a' ks.length c' = v' at k2
  have d1 := (hb2.block (w.heap.size + 1) (by omega)).trans b1
  have d2 := (hb2.block (w.heap.size + 1 + 1) (by omega)).trans b2
  have hB2 := more hB0 hb2
  have hsz := hb2.size
  have hlt := k2.lt
  obtain ⟨⟨p0, p1, p2⟩, f0, f1, f2⟩ := box3 d2
  obtain ⟨⟨q0, q1, q2⟩, e0, e1, e2⟩ := box3 d1
  clear HI b1 b2
  have HF : Hid (((((w2.setCell ⟨w.heap.size + 1 + 1, 2, none⟩ v').setCell ⟨w.heap.size + 1, 0, none⟩ (.int .i64 id)).setCell ⟨w.heap.size + 1, 1, none⟩ (.int .i64 ep)).setCell ⟨w.heap.size + 1, 2, none⟩ v').heap[w.heap.size + 1]? = some (mb id ep v')) := box3_set2 (box3_set1 (box3_set0 (blk' (grown_set _ _ _ _) d1 (by omega)) _) _) _
  have HB : Hid (Below w.heap.size w ((((w2.setCell ⟨w.heap.size + 1 + 1, 2, none⟩ v').setCell ⟨w.heap.size + 1, 0, none⟩ (.int .i64 id)).setCell ⟨w.heap.size + 1, 1, none⟩ (.int .i64 ep)).setCell ⟨w.heap.size + 1, 2, none⟩ v')) := (((hB2.setCell (by simp; omega) _).setCell (by simp) _).setCell (by simp) _).setCell (by simp) _
  have HK : Hid (Keys w.heap.size v' ks ((((w2.setCell ⟨w.heap.size + 1 + 1, 2, none⟩ v').setCell ⟨w.heap.size + 1, 0, none⟩ (.int .i64 id)).setCell ⟨w.heap.size + 1, 1, none⟩ (.int .i64 ep)).setCell ⟨w.heap.size + 1, 2, none⟩ v')) :=
    ((((k2.mono (by omega)).kept (grown_set _ _ _ _) (fun k e e' => by cases e; have := (hlt _ e').1; omega)).kept (grown_set _ _ _ _) (fun k e e' => by cases e; have := (hlt _ e').1; omega)).kept (grown_set _ _ _ _) (fun k e e' => by cases e; have := (hlt _ e').1; omega)).kept (grown_set _ _ _ _) (fun k e e' => by cases e; have := (hlt _ e').1; omega)
  clear d1 d2 hB2 hlt k2 hb2
  subst hv'
  go_wp2
  have bF := HF.out
  have gB := HB.out
  have gK := HK.out
  clear HF HB HK
  generalize (((w2.setCell ⟨w.heap.size + 1 + 1, 2, none⟩ (.slice a' ks.length c')).setCell ⟨w.heap.size + 1, 0, none⟩ (.int .i64 id)).setCell ⟨w.heap.size + 1, 1, none⟩ (.int .i64 ep)).setCell ⟨w.heap.size + 1, 2, none⟩ (.slice a' ks.length c') = WF at bF gB gK ⊢
  obtain ⟨⟨z0, z1, z2⟩, _, _, _⟩ := box3 bF
  exact bodyPost_ret (v := mv id ep (.slice a' ks.length c')) (by simp [results, Try.results7, go_sem, z0, z1, z2]) rfl ⟨_, rfl, gK, gB⟩

def sameM (id ep : Int) (ks : List (Int × Int)) (id' ep' : Int) (ks' : List (Int × Int)) : Bool := decide (id = id' ∧ ep = ep') && eqL ks ks'
end Go.Proofs.Ytplinjepeahahab
