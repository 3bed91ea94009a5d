
/- GroupKeyOf of both. -/
import Derived.Test.YtplinjepeahahabMem4a
namespace Go.Proofs.Ytplinjepeahahab
open Go.RowKit

/-- The group's key of a member. -/
def groupB (id ep : Int) (ks : List (Int × Int)) : Bool := memberB id ep ks && rootB ks
def groupK (id ep : Int) (ks : List (Int × Int)) : Int × Int := if memberB id ep ks = true then rootK ks else (0, 0)

set_option maxHeartbeats 1000000 in
theorem specGroupKeyOf_any {B : Nat} {v : Value} {ks : List (Int × Int)} {w : World} (id ep : Int) (h : Keys B v ks w) :
    Calls Try.prog 6 #[mv id ep v] w fun e w' => e = .returned (.tuple #[kv (groupK id ep ks).1 (groupK id ep ks).2, .bool (groupB id ep ks)]) ∧ Below w.heap.size w w' := by
  obtain ⟨c0, c1, c2⟩ := cell3 w id ep v
  have d0 := cell_since c0 (one_below _ (kb 0 0))
  have d1 := cell_since c1 (one_below _ (kb 0 0))
  have d2 := cell_since c2 (one_below _ (kb 0 0))
  have hB2 := two_below w (mb id ep v) (kb 0 0)
  have hK := since h hB2
  have bR : ((w.alloc (mb id ep v)).alloc (kb 0 0)).heap[w.heap.size + 1]? = some (kb 0 0) := by
    have := heap_alloc_new (w.alloc (mb id ep v)) (kb 0 0)
    simpa using this
  have hs0 : ((w.alloc (mb id ep v)).alloc (kb 0 0)).heap.size = w.heap.size + 1 + 1 := by simp
  clear c0 c1 c2 h
  go_enter Try.func6, Try.ntmps6
  go_wp2_with fail
  generalize (w.alloc (mb id ep v)).alloc (kb 0 0) = w1 at d0 d1 d2 hB2 hK bR hs0 ⊢
  refine (specMemberOk_any id ep hK).mono ?_
  rintro e w2 ⟨rfl, b2⟩
  have e0 := cell_since d0 b2
  have e1 := cell_since d1 b2
  have e2 := cell_since d2 b2
  have hK2 := since hK b2
  have hB3 := more hB2 b2
  have bR2 := (b2.block (w.heap.size + 1) (by omega)).trans bR
  have hsz := b2.size
  obtain ⟨r0, r1, f0, f1⟩ : w2.cell? ⟨w.heap.size + 1, 0, none⟩ = some (.int .i64 0) ∧ w2.cell? ⟨w.heap.size + 1, 1, none⟩ = some (.int .i64 0) ∧ w2.frozen? ⟨w.heap.size + 1, 0, none⟩ = false ∧ w2.frozen? ⟨w.heap.size + 1, 1, none⟩ = false := by
    simp [World.cell?, World.frozen?, bR2]
  clear d0 d1 d2 hB2 hK bR b2
  cases hok : memberB id ep ks with
  | false =>
    have HG : Hid (groupK id ep ks = (0, 0) ∧ groupB id ep ks = false) := by show groupK id ep ks = (0, 0) ∧ groupB id ep ks = false; simp [groupK, groupB, hok]
    have HB : Hid (Below w.heap.size w ((w2.setCell ⟨w.heap.size + 1, 0, none⟩ (.int .i64 0)).setCell ⟨w.heap.size + 1, 1, none⟩ (.int .i64 0))) := (hB3.setCell (by simp) _).setCell (by simp) _
    have HF : Hid (((w2.setCell ⟨w.heap.size + 1, 0, none⟩ (.int .i64 0)).setCell ⟨w.heap.size + 1, 1, none⟩ (.int .i64 0)).heap[w.heap.size + 1]? = some (kb 0 0)) := by show _ = _; simp [World.setCell, Array.getElem?_modify, bR2]
    go_wp2
    have bF := HF.out
    have gB := HB.out
    have gG := HG.out
    clear HF HB HG
    generalize (w2.setCell ⟨w.heap.size + 1, 0, none⟩ (.int .i64 0)).setCell ⟨w.heap.size + 1, 1, none⟩ (.int .i64 0) = WF at bF gB ⊢
    obtain ⟨z0, z1⟩ : WF.cell? ⟨w.heap.size + 1, 0, none⟩ = some (.int .i64 0) ∧ WF.cell? ⟨w.heap.size + 1, 1, none⟩ = some (.int .i64 0) := by simp [World.cell?, bF]
    exact bodyPost_ret (v := .tuple #[kv 0 0, .bool false]) (by simp [results, Try.results6, go_sem, z0, z1]) rfl ⟨by rw [gG.1, gG.2], gB⟩
  | true =>
    have HG : Hid (groupK id ep ks = rootK ks ∧ groupB id ep ks = rootB ks) := by show groupK id ep ks = rootK ks ∧ groupB id ep ks = rootB ks; simp [groupK, groupB, hok]
    go_wp2_with fail
    refine (l4Root_any hK2).mono ?_
    rintro e w3 ⟨rfl, b3⟩
    have hB4 := more hB3 b3
    have bR3 := (b3.block (w.heap.size + 1) (by omega)).trans bR2
    obtain ⟨r0, r1, f0, f1⟩ : w3.cell? ⟨w.heap.size + 1, 0, none⟩ = some (.int .i64 0) ∧ w3.cell? ⟨w.heap.size + 1, 1, none⟩ = some (.int .i64 0) ∧ w3.frozen? ⟨w.heap.size + 1, 0, none⟩ = false ∧ w3.frozen? ⟨w.heap.size + 1, 1, none⟩ = false := by
      simp [World.cell?, World.frozen?, bR3]
    generalize hrk : rootK ks = rk at HG ⊢
    obtain ⟨x, y⟩ := rk
    have HB : Hid (Below w.heap.size w ((w3.setCell ⟨w.heap.size + 1, 0, none⟩ (.int .i64 x)).setCell ⟨w.heap.size + 1, 1, none⟩ (.int .i64 y))) := (hB4.setCell (by simp) _).setCell (by simp) _
    have HF : Hid (((w3.setCell ⟨w.heap.size + 1, 0, none⟩ (.int .i64 x)).setCell ⟨w.heap.size + 1, 1, none⟩ (.int .i64 y)).heap[w.heap.size + 1]? = some (kb x y)) := by show _ = _; simp [World.setCell, Array.getElem?_modify, bR3]
    clear e0 e1 e2 hK2 hB3 bR2 hB4 bR3 b3
    go_wp2
    have bF := HF.out
    have gB := HB.out
    have gG := HG.out
    clear HF HB HG
    generalize (w3.setCell ⟨w.heap.size + 1, 0, none⟩ (.int .i64 x)).setCell ⟨w.heap.size + 1, 1, none⟩ (.int .i64 y) = WF at bF gB ⊢
    obtain ⟨z0, z1⟩ : WF.cell? ⟨w.heap.size + 1, 0, none⟩ = some (.int .i64 x) ∧ WF.cell? ⟨w.heap.size + 1, 1, none⟩ = some (.int .i64 y) := by simp [World.cell?, bF]
    exact bodyPost_ret (v := .tuple #[kv x y, .bool (rootB ks)]) (by simp [results, Try.results6, go_sem, z0, z1]) rfl ⟨by rw [gG.1, gG.2], gB⟩

set_option maxHeartbeats 1000000 in
theorem groupKeyOf_any {B : Nat} {v : Value} {ks : List (Int × Int)} {w : World} (id ep : Int) (h : Keys B v ks w) :
    Calls Try.prog 8 #[mv id ep v] w fun e w' => e = .returned (.tuple #[kv (groupK id ep ks).1 (groupK id ep ks).2, .bool (groupB id ep ks)]) ∧ Below w.heap.size w w' := by
  obtain ⟨c0, c1, c2⟩ := cell3 w id ep v
  have d0 := cell_since c0 (one_below _ (kb 0 0))
  have d1 := cell_since c1 (one_below _ (kb 0 0))
  have d2 := cell_since c2 (one_below _ (kb 0 0))
  have hB2 := two_below w (mb id ep v) (kb 0 0)
  have hK := since h hB2
  have bR : ((w.alloc (mb id ep v)).alloc (kb 0 0)).heap[w.heap.size + 1]? = some (kb 0 0) := by
    have := heap_alloc_new (w.alloc (mb id ep v)) (kb 0 0)
    simpa using this
  have hs0 : ((w.alloc (mb id ep v)).alloc (kb 0 0)).heap.size = w.heap.size + 1 + 1 := by simp
  clear c0 c1 c2 h
  go_enter Try.func8, Try.ntmps8
  go_wp2_with fail
  generalize (w.alloc (mb id ep v)).alloc (kb 0 0) = w1 at d0 d1 d2 hB2 hK bR hs0 ⊢
  refine (memberOk_any id ep hK).mono ?_
  rintro e w2 ⟨rfl, b2⟩
  have e0 := cell_since d0 b2
  have e1 := cell_since d1 b2
  have e2 := cell_since d2 b2
  have hK2 := since hK b2
  have hB3 := more hB2 b2
  have bR2 := (b2.block (w.heap.size + 1) (by omega)).trans bR
  have hsz := b2.size
  obtain ⟨r0, r1, f0, f1⟩ : w2.cell? ⟨w.heap.size + 1, 0, none⟩ = some (.int .i64 0) ∧ w2.cell? ⟨w.heap.size + 1, 1, none⟩ = some (.int .i64 0) ∧ w2.frozen? ⟨w.heap.size + 1, 0, none⟩ = false ∧ w2.frozen? ⟨w.heap.size + 1, 1, none⟩ = false := by
    simp [World.cell?, World.frozen?, bR2]
  clear d0 d1 d2 hB2 hK bR b2
  cases hok : memberB id ep ks with
  | false =>
    have HG : Hid (groupK id ep ks = (0, 0) ∧ groupB id ep ks = false) := by show groupK id ep ks = (0, 0) ∧ groupB id ep ks = false; simp [groupK, groupB, hok]
    have HB : Hid (Below w.heap.size w ((w2.setCell ⟨w.heap.size + 1, 0, none⟩ (.int .i64 0)).setCell ⟨w.heap.size + 1, 1, none⟩ (.int .i64 0))) := (hB3.setCell (by simp) _).setCell (by simp) _
    have HF : Hid (((w2.setCell ⟨w.heap.size + 1, 0, none⟩ (.int .i64 0)).setCell ⟨w.heap.size + 1, 1, none⟩ (.int .i64 0)).heap[w.heap.size + 1]? = some (kb 0 0)) := by show _ = _; simp [World.setCell, Array.getElem?_modify, bR2]
    go_wp2
    have bF := HF.out
    have gB := HB.out
    have gG := HG.out
    clear HF HB HG
    generalize (w2.setCell ⟨w.heap.size + 1, 0, none⟩ (.int .i64 0)).setCell ⟨w.heap.size + 1, 1, none⟩ (.int .i64 0) = WF at bF gB ⊢
    obtain ⟨z0, z1⟩ : WF.cell? ⟨w.heap.size + 1, 0, none⟩ = some (.int .i64 0) ∧ WF.cell? ⟨w.heap.size + 1, 1, none⟩ = some (.int .i64 0) := by simp [World.cell?, bF]
    exact bodyPost_ret (v := .tuple #[kv 0 0, .bool false]) (by simp [results, Try.results8, go_sem, z0, z1]) rfl ⟨by rw [gG.1, gG.2], gB⟩
  | true =>
    have HG : Hid (groupK id ep ks = rootK ks ∧ groupB id ep ks = rootB ks) := by show groupK id ep ks = rootK ks ∧ groupB id ep ks = rootB ks; simp [groupK, groupB, hok]
    go_wp2_with fail
    refine (rootKey_any hK2).mono ?_
    rintro e w3 ⟨rfl, b3⟩
    have hB4 := more hB3 b3
    have bR3 := (b3.block (w.heap.size + 1) (by omega)).trans bR2
    obtain ⟨r0, r1, f0, f1⟩ : w3.cell? ⟨w.heap.size + 1, 0, none⟩ = some (.int .i64 0) ∧ w3.cell? ⟨w.heap.size + 1, 1, none⟩ = some (.int .i64 0) ∧ w3.frozen? ⟨w.heap.size + 1, 0, none⟩ = false ∧ w3.frozen? ⟨w.heap.size + 1, 1, none⟩ = false := by
      simp [World.cell?, World.frozen?, bR3]
    generalize hrk : rootK ks = rk at HG ⊢
    obtain ⟨x, y⟩ := rk
    have HB : Hid (Below w.heap.size w ((w3.setCell ⟨w.heap.size + 1, 0, none⟩ (.int .i64 x)).setCell ⟨w.heap.size + 1, 1, none⟩ (.int .i64 y))) := (hB4.setCell (by simp) _).setCell (by simp) _
    have HF : Hid (((w3.setCell ⟨w.heap.size + 1, 0, none⟩ (.int .i64 x)).setCell ⟨w.heap.size + 1, 1, none⟩ (.int .i64 y)).heap[w.heap.size + 1]? = some (kb x y)) := by show _ = _; simp [World.setCell, Array.getElem?_modify, bR3]
    clear e0 e1 e2 hK2 hB3 bR2 hB4 bR3 b3
    go_wp2
    have bF := HF.out
    have gB := HB.out
    have gG := HG.out
    clear HF HB HG
    generalize (w3.setCell ⟨w.heap.size + 1, 0, none⟩ (.int .i64 x)).setCell ⟨w.heap.size + 1, 1, none⟩ (.int .i64 y) = WF at bF gB ⊢
    obtain ⟨z0, z1⟩ : WF.cell? ⟨w.heap.size + 1, 0, none⟩ = some (.int .i64 x) ∧ WF.cell? ⟨w.heap.size + 1, 1, none⟩ = some (.int .i64 y) := by simp [World.cell?, bF]
    exact bodyPost_ret (v := .tuple #[kv x y, .bool (rootB ks)]) (by simp [results, Try.results8, go_sem, z0, z1]) rfl ⟨by rw [gG.1, gG.2], gB⟩

end Go.Proofs.Ytplinjepeahahab
