/- The laws' comparison of two members; the root's key of keys, GroupKeyOf of the program and of the model. -/
import Derived.Test.YthgiphbejpihaaaMem3
namespace Go.Proofs.Ythgiphbejpihaaa
open Go.RowKit

set_option maxHeartbeats 1000000 in
theorem eqMember_any {B C : Nat} {u v : Value} {ks ks' : List (Int × Int)} {w : World} (id ep id' ep' : Int) (hx : Keys B u ks w) (hy : Keys C v ks' w) :
    Calls Try.prog 11 #[mv id ep u, mv id' ep' v] w fun e w' => e = .returned (.bool (sameM id ep ks id' ep' ks')) ∧ Below w.heap.size w w' := by
  have hB2 := two_below w (mb id ep u) (mb id' ep' v)
  obtain ⟨c0, c1, c2⟩ := cell3 w id ep u
  have d0 := cell_since c0 (one_below _ (mb id' ep' v))
  have d1 := cell_since c1 (one_below _ (mb id' ep' v))
  have d2 := cell_since c2 (one_below _ (mb id' ep' v))
  obtain ⟨p0, p1, p2⟩ := cell3 (w.alloc (mb id ep u)) id' ep' v
  have HX : Hid (Keys B u ks ((w.alloc (mb id ep u)).alloc (mb id' ep' v))) := since hx hB2
  have HY : Hid (Keys C v ks' ((w.alloc (mb id ep u)).alloc (mb id' ep' v))) := since hy hB2
  clear c0 c1 c2 hx hy
  simp only [World.size_alloc] at p0 p1 p2
  by_cases h1 : id = id'
  · have h1' : (id == id') = true := by simpa using h1
    subst h1
    by_cases h2 : ep = ep'
    · have h2' : (ep == ep') = true := by simpa using h2
      subst h2
      have HS : Hid (sameM id ep ks id ep ks' = eqL ks ks') := by show sameM id ep ks id ep ks' = _; simp [sameM]
      go_enter Try.func11, Try.ntmps11
      go_wp2_with fail
      refine (eqKeyS_any HX.out HY.out).mono ?_
      rintro e w2 ⟨rfl, b2⟩
      have HB : Hid (Below w.heap.size w w2) := more hB2 b2
      clear HX HY d0 d1 d2 p0 p1 p2
      cases hq : eqL ks ks' with
      | true =>
        go_wp2
        go_ret
        exact ⟨by rw [HS.out, hq]; rfl, HB.out⟩
      | false =>
        go_wp2
        go_ret
        exact ⟨by rw [HS.out, hq]; rfl, HB.out⟩
    · have h2' : (ep == ep') = false := by simpa using h2
      have HS : Hid (sameM id ep ks id ep' ks' = false) := by show sameM id ep ks id ep' ks' = _; simp [sameM, h2]
      go_enter Try.func11, Try.ntmps11
      go_wp2
      go_ret
      exact ⟨by rw [HS.out]; rfl, hB2⟩
  · have h1' : (id == id') = false := by simpa using h1
    have HS : Hid (sameM id ep ks id' ep' ks' = false) := by show sameM id ep ks id' ep' ks' = _; simp [sameM, h1]
    go_enter Try.func11, Try.ntmps11
    go_wp2
    go_ret
    exact ⟨by rw [HS.out]; rfl, hB2⟩
theorem sameM_self (id ep : Int) (ks : List (Int × Int)) : sameM id ep ks id ep ks = true := by simp [sameM, eqL]

/-- The root's key of keys that rise. -/
def rootB (ks : List (Int × Int)) : Bool := decide (0 < ks.length) && decide ((kAt ks 0).1 = 1)
def rootK (ks : List (Int × Int)) : Int × Int := if rootB ks = true then kAt ks 0 else (0, 0)

set_option maxHeartbeats 1000000 in
theorem l4Root_any {B : Nat} {v : Value} {ks : List (Int × Int)} {w : World} (h : Keys B v ks w) :
    Calls Try.prog 37 #[v] w fun e w' => e = .returned (.tuple #[kv (rootK ks).1 (rootK ks).2, .bool (rootB ks)]) ∧ Below w.heap.size w w' := by
  obtain ⟨a, c, rfl, hm, hrow⟩ := h.row
  clear h
  unfold maxLen at hm
  by_cases h0 : ks = []
  · subst h0
    go_enter Try.func37, Try.ntmps37
    go_wp2
    exact bodyPost_ret (v := .tuple #[kv 0 0, .bool false]) (by simp [results, Try.results37, go_sem]) rfl ⟨rfl, one_below _ _⟩
  · obtain ⟨g, rfl, hg, hseg⟩ : ∃ g, a = some ⟨g, 0, none⟩ ∧ g < w.heap.size ∧ KSeg g 0 ks w := by
      rcases hrow with e | e
      · exact absurd e h0
      · exact e
    have hpos : 0 < ks.length := List.length_pos_iff.2 h0
    obtain ⟨c1, c2⟩ := hseg 0 hpos
    simp only [Nat.zero_add, Nat.zero_mul] at c1 c2
    have HK : Hid (kAt ks 0 = ks[0]) := kAt_get ks 0 hpos
    obtain ⟨x, y, hxy⟩ : ∃ x y, ks[0] = (x, y) := ⟨_, _, rfl⟩
    rw [hxy] at c1 c2 HK
    clear hxy hseg hrow
    by_cases hx : x = 1
    · subst hx
      have hrb : rootB ks = true := by simp [rootB, HK.out, hpos]
      have hrk : rootK ks = (1, y) := by simp [rootK, hrb, HK.out]
      rw [hrk, hrb]
      clear hrb hrk
      have hne : ((ks.length : Int) == 0) = false := by simp; omega
      generalize ks.length = n at hpos hm hne
      go_enter Try.func37, Try.ntmps37
      go_wp2
      exact bodyPost_ret (v := .tuple #[kv 1 y, .bool true]) (by simp [results, Try.results37, go_sem]) rfl ⟨rfl, one_below _ _⟩
    · have hx' : (x == 1) = false := by simpa using hx
      have hrb : rootB ks = false := by simp [rootB, HK.out, hx]
      have hrk : rootK ks = (0, 0) := by simp [rootK, hrb]
      rw [hrk, hrb]
      clear hrb hrk
      have hne : ((ks.length : Int) == 0) = false := by simp; omega
      generalize ks.length = n at hpos hm hne
      go_enter Try.func37, Try.ntmps37
      go_wp2
      exact bodyPost_ret (v := .tuple #[kv 0 0, .bool false]) (by simp [results, Try.results37, go_sem]) rfl ⟨rfl, one_below _ _⟩

set_option maxHeartbeats 1000000 in
theorem rootKey_any {B : Nat} {v : Value} {ks : List (Int × Int)} {w : World} (h : Keys B v ks w) :
    Calls Try.prog 38 #[v] w fun e w' => e = .returned (.tuple #[kv (rootK ks).1 (rootK ks).2, .bool (rootB ks)]) ∧ Below w.heap.size w w' := by
  obtain ⟨a, c, rfl, hm, hrow⟩ := h.row
  clear h
  unfold maxLen at hm
  by_cases h0 : ks = []
  · subst h0
    go_enter Try.func38, Try.ntmps38
    go_wp2
    exact bodyPost_ret (v := .tuple #[kv 0 0, .bool false]) (by simp [results, Try.results38, go_sem]) rfl ⟨rfl, one_below _ _⟩
  · obtain ⟨g, rfl, hg, hseg⟩ : ∃ g, a = some ⟨g, 0, none⟩ ∧ g < w.heap.size ∧ KSeg g 0 ks w := by
      rcases hrow with e | e
      · exact absurd e h0
      · exact e
    have hpos : 0 < ks.length := List.length_pos_iff.2 h0
    obtain ⟨c1, c2⟩ := hseg 0 hpos
    simp only [Nat.zero_add, Nat.zero_mul] at c1 c2
    have HK : Hid (kAt ks 0 = ks[0]) := kAt_get ks 0 hpos
    obtain ⟨x, y, hxy⟩ : ∃ x y, ks[0] = (x, y) := ⟨_, _, rfl⟩
    rw [hxy] at c1 c2 HK
    clear hxy hseg hrow
    by_cases hx : x = 1
    · subst hx
      have hrb : rootB ks = true := by simp [rootB, HK.out, hpos]
      have hrk : rootK ks = (1, y) := by simp [rootK, hrb, HK.out]
      rw [hrk, hrb]
      clear hrb hrk
      have hne : ((ks.length : Int) == 0) = false := by simp; omega
      generalize ks.length = n at hpos hm hne
      go_enter Try.func38, Try.ntmps38
      go_wp2
      exact bodyPost_ret (v := .tuple #[kv 1 y, .bool true]) (by simp [results, Try.results38, go_sem]) rfl ⟨rfl, one_below _ _⟩
    · have hx' : (x == 1) = false := by simpa using hx
      have hrb : rootB ks = false := by simp [rootB, HK.out, hx]
      have hrk : rootK ks = (0, 0) := by simp [rootK, hrb]
      rw [hrk, hrb]
      clear hrb hrk
      have hne : ((ks.length : Int) == 0) = false := by simp; omega
      generalize ks.length = n at hpos hm hne
      go_enter Try.func38, Try.ntmps38
      go_wp2
      exact bodyPost_ret (v := .tuple #[kv 0 0, .bool false]) (by simp [results, Try.results38, go_sem]) rfl ⟨rfl, one_below _ _⟩

/-- The group's key of a member. -/
def groupB (id ep : Int) (ks : List (Int × Int)) : Bool := memberB id ep ks && rootB ks
def groupK (id ep : Int) (ks : List (Int × Int)) : Int × Int := if memberB id ep ks = true then rootK ks else (0, 0)

set_option maxHeartbeats 1000000 in
theorem specGroupKeyOf_any {B : Nat} {v : Value} {ks : List (Int × Int)} {w : World} (id ep : Int) (h : Keys B v ks w) :
    Calls Try.prog 12 #[mv id ep v] w fun e w' => e = .returned (.tuple #[kv (groupK id ep ks).1 (groupK id ep ks).2, .bool (groupB id ep ks)]) ∧ Below w.heap.size w w' := by
  obtain ⟨c0, c1, c2⟩ := cell3 w id ep v
  have d0 := cell_since c0 (one_below _ (kb 0 0))
  have d1 := cell_since c1 (one_below _ (kb 0 0))
  have d2 := cell_since c2 (one_below _ (kb 0 0))
  have hB2 := two_below w (mb id ep v) (kb 0 0)
  have hK := since h hB2
  have bR : ((w.alloc (mb id ep v)).alloc (kb 0 0)).heap[w.heap.size + 1]? = some (kb 0 0) := by
    have := heap_alloc_new (w.alloc (mb id ep v)) (kb 0 0)
    simpa using this
  have hs0 : ((w.alloc (mb id ep v)).alloc (kb 0 0)).heap.size = w.heap.size + 1 + 1 := by simp
  clear c0 c1 c2 h
  go_enter Try.func12, Try.ntmps12
  go_wp2_with fail
  generalize (w.alloc (mb id ep v)).alloc (kb 0 0) = w1 at d0 d1 d2 hB2 hK bR hs0 ⊢
  refine (specMemberOk_any id ep hK).mono ?_
  rintro e w2 ⟨rfl, b2⟩
  have e0 := cell_since d0 b2
  have e1 := cell_since d1 b2
  have e2 := cell_since d2 b2
  have hK2 := since hK b2
  have hB3 := more hB2 b2
  have bR2 := (b2.block (w.heap.size + 1) (by omega)).trans bR
  have hsz := b2.size
  obtain ⟨r0, r1, f0, f1⟩ : w2.cell? ⟨w.heap.size + 1, 0, none⟩ = some (.int .i64 0) ∧ w2.cell? ⟨w.heap.size + 1, 1, none⟩ = some (.int .i64 0) ∧ w2.frozen? ⟨w.heap.size + 1, 0, none⟩ = false ∧ w2.frozen? ⟨w.heap.size + 1, 1, none⟩ = false := by
    simp [World.cell?, World.frozen?, bR2]
  clear d0 d1 d2 hB2 hK bR b2
  cases hok : memberB id ep ks with
  | false =>
    have HG : Hid (groupK id ep ks = (0, 0) ∧ groupB id ep ks = false) := by show groupK id ep ks = (0, 0) ∧ groupB id ep ks = false; simp [groupK, groupB, hok]
    have HB : Hid (Below w.heap.size w ((w2.setCell ⟨w.heap.size + 1, 0, none⟩ (.int .i64 0)).setCell ⟨w.heap.size + 1, 1, none⟩ (.int .i64 0))) := (hB3.setCell (by simp) _).setCell (by simp) _
    have HF : Hid (((w2.setCell ⟨w.heap.size + 1, 0, none⟩ (.int .i64 0)).setCell ⟨w.heap.size + 1, 1, none⟩ (.int .i64 0)).heap[w.heap.size + 1]? = some (kb 0 0)) := by show _ = _; simp [World.setCell, Array.getElem?_modify, bR2]
    go_wp2
    have bF := HF.out
    have gB := HB.out
    have gG := HG.out
    clear HF HB HG
    generalize (w2.setCell ⟨w.heap.size + 1, 0, none⟩ (.int .i64 0)).setCell ⟨w.heap.size + 1, 1, none⟩ (.int .i64 0) = WF at bF gB ⊢
    obtain ⟨z0, z1⟩ : WF.cell? ⟨w.heap.size + 1, 0, none⟩ = some (.int .i64 0) ∧ WF.cell? ⟨w.heap.size + 1, 1, none⟩ = some (.int .i64 0) := by simp [World.cell?, bF]
    exact bodyPost_ret (v := .tuple #[kv 0 0, .bool false]) (by simp [results, Try.results12, go_sem, z0, z1]) rfl ⟨by rw [gG.1, gG.2], gB⟩
  | true =>
    have HG : Hid (groupK id ep ks = rootK ks ∧ groupB id ep ks = rootB ks) := by show groupK id ep ks = rootK ks ∧ groupB id ep ks = rootB ks; simp [groupK, groupB, hok]
    go_wp2_with fail
    refine (l4Root_any hK2).mono ?_
    rintro e w3 ⟨rfl, b3⟩
    have hB4 := more hB3 b3
    have bR3 := (b3.block (w.heap.size + 1) (by omega)).trans bR2
    obtain ⟨r0, r1, f0, f1⟩ : w3.cell? ⟨w.heap.size + 1, 0, none⟩ = some (.int .i64 0) ∧ w3.cell? ⟨w.heap.size + 1, 1, none⟩ = some (.int .i64 0) ∧ w3.frozen? ⟨w.heap.size + 1, 0, none⟩ = false ∧ w3.frozen? ⟨w.heap.size + 1, 1, none⟩ = false := by
      simp [World.cell?, World.frozen?, bR3]
    generalize hrk : rootK ks = rk at HG ⊢
    obtain ⟨x, y⟩ := rk
    have HB : Hid (Below w.heap.size w ((w3.setCell ⟨w.heap.size + 1, 0, none⟩ (.int .i64 x)).setCell ⟨w.heap.size + 1, 1, none⟩ (.int .i64 y))) := (hB4.setCell (by simp) _).setCell (by simp) _
    have HF : Hid (((w3.setCell ⟨w.heap.size + 1, 0, none⟩ (.int .i64 x)).setCell ⟨w.heap.size + 1, 1, none⟩ (.int .i64 y)).heap[w.heap.size + 1]? = some (kb x y)) := by show _ = _; simp [World.setCell, Array.getElem?_modify, bR3]
    clear e0 e1 e2 hK2 hB3 bR2 hB4 bR3 b3
    go_wp2
    have bF := HF.out
    have gB := HB.out
    have gG := HG.out
    clear HF HB HG
    generalize (w3.setCell ⟨w.heap.size + 1, 0, none⟩ (.int .i64 x)).setCell ⟨w.heap.size + 1, 1, none⟩ (.int .i64 y) = WF at bF gB ⊢
    obtain ⟨z0, z1⟩ : WF.cell? ⟨w.heap.size + 1, 0, none⟩ = some (.int .i64 x) ∧ WF.cell? ⟨w.heap.size + 1, 1, none⟩ = some (.int .i64 y) := by simp [World.cell?, bF]
    exact bodyPost_ret (v := .tuple #[kv x y, .bool (rootB ks)]) (by simp [results, Try.results12, go_sem, z0, z1]) rfl ⟨by rw [gG.1, gG.2], gB⟩

set_option maxHeartbeats 1000000 in
theorem groupKeyOf_any {B : Nat} {v : Value} {ks : List (Int × Int)} {w : World} (id ep : Int) (h : Keys B v ks w) :
    Calls Try.prog 13 #[mv id ep v] w fun e w' => e = .returned (.tuple #[kv (groupK id ep ks).1 (groupK id ep ks).2, .bool (groupB id ep ks)]) ∧ Below w.heap.size w w' := by
  obtain ⟨c0, c1, c2⟩ := cell3 w id ep v
  have d0 := cell_since c0 (one_below _ (kb 0 0))
  have d1 := cell_since c1 (one_below _ (kb 0 0))
  have d2 := cell_since c2 (one_below _ (kb 0 0))
  have hB2 := two_below w (mb id ep v) (kb 0 0)
  have hK := since h hB2
  have bR : ((w.alloc (mb id ep v)).alloc (kb 0 0)).heap[w.heap.size + 1]? = some (kb 0 0) := by
    have := heap_alloc_new (w.alloc (mb id ep v)) (kb 0 0)
    simpa using this
  have hs0 : ((w.alloc (mb id ep v)).alloc (kb 0 0)).heap.size = w.heap.size + 1 + 1 := by simp
  clear c0 c1 c2 h
  go_enter Try.func13, Try.ntmps13
  go_wp2_with fail
  generalize (w.alloc (mb id ep v)).alloc (kb 0 0) = w1 at d0 d1 d2 hB2 hK bR hs0 ⊢
  refine (memberOk_any id ep hK).mono ?_
  rintro e w2 ⟨rfl, b2⟩
  have e0 := cell_since d0 b2
  have e1 := cell_since d1 b2
  have e2 := cell_since d2 b2
  have hK2 := since hK b2
  have hB3 := more hB2 b2
  have bR2 := (b2.block (w.heap.size + 1) (by omega)).trans bR
  have hsz := b2.size
  obtain ⟨r0, r1, f0, f1⟩ : w2.cell? ⟨w.heap.size + 1, 0, none⟩ = some (.int .i64 0) ∧ w2.cell? ⟨w.heap.size + 1, 1, none⟩ = some (.int .i64 0) ∧ w2.frozen? ⟨w.heap.size + 1, 0, none⟩ = false ∧ w2.frozen? ⟨w.heap.size + 1, 1, none⟩ = false := by
    simp [World.cell?, World.frozen?, bR2]
  clear d0 d1 d2 hB2 hK bR b2
  cases hok : memberB id ep ks with
  | false =>
    have HG : Hid (groupK id ep ks = (0, 0) ∧ groupB id ep ks = false) := by show groupK id ep ks = (0, 0) ∧ groupB id ep ks = false; simp [groupK, groupB, hok]
    have HB : Hid (Below w.heap.size w ((w2.setCell ⟨w.heap.size + 1, 0, none⟩ (.int .i64 0)).setCell ⟨w.heap.size + 1, 1, none⟩ (.int .i64 0))) := (hB3.setCell (by simp) _).setCell (by simp) _
    have HF : Hid (((w2.setCell ⟨w.heap.size + 1, 0, none⟩ (.int .i64 0)).setCell ⟨w.heap.size + 1, 1, none⟩ (.int .i64 0)).heap[w.heap.size + 1]? = some (kb 0 0)) := by show _ = _; simp [World.setCell, Array.getElem?_modify, bR2]
    go_wp2
    have bF := HF.out
    have gB := HB.out
    have gG := HG.out
    clear HF HB HG
    generalize (w2.setCell ⟨w.heap.size + 1, 0, none⟩ (.int .i64 0)).setCell ⟨w.heap.size + 1, 1, none⟩ (.int .i64 0) = WF at bF gB ⊢
    obtain ⟨z0, z1⟩ : WF.cell? ⟨w.heap.size + 1, 0, none⟩ = some (.int .i64 0) ∧ WF.cell? ⟨w.heap.size + 1, 1, none⟩ = some (.int .i64 0) := by simp [World.cell?, bF]
    exact bodyPost_ret (v := .tuple #[kv 0 0, .bool false]) (by simp [results, Try.results13, go_sem, z0, z1]) rfl ⟨by rw [gG.1, gG.2], gB⟩
  | true =>
    have HG : Hid (groupK id ep ks = rootK ks ∧ groupB id ep ks = rootB ks) := by show groupK id ep ks = rootK ks ∧ groupB id ep ks = rootB ks; simp [groupK, groupB, hok]
    go_wp2_with fail
    refine (rootKey_any hK2).mono ?_
    rintro e w3 ⟨rfl, b3⟩
    have hB4 := more hB3 b3
    have bR3 := (b3.block (w.heap.size + 1) (by omega)).trans bR2
    obtain ⟨r0, r1, f0, f1⟩ : w3.cell? ⟨w.heap.size + 1, 0, none⟩ = some (.int .i64 0) ∧ w3.cell? ⟨w.heap.size + 1, 1, none⟩ = some (.int .i64 0) ∧ w3.frozen? ⟨w.heap.size + 1, 0, none⟩ = false ∧ w3.frozen? ⟨w.heap.size + 1, 1, none⟩ = false := by
      simp [World.cell?, World.frozen?, bR3]
    generalize hrk : rootK ks = rk at HG ⊢
    obtain ⟨x, y⟩ := rk
    have HB : Hid (Below w.heap.size w ((w3.setCell ⟨w.heap.size + 1, 0, none⟩ (.int .i64 x)).setCell ⟨w.heap.size + 1, 1, none⟩ (.int .i64 y))) := (hB4.setCell (by simp) _).setCell (by simp) _
    have HF : Hid (((w3.setCell ⟨w.heap.size + 1, 0, none⟩ (.int .i64 x)).setCell ⟨w.heap.size + 1, 1, none⟩ (.int .i64 y)).heap[w.heap.size + 1]? = some (kb x y)) := by show _ = _; simp [World.setCell, Array.getElem?_modify, bR3]
    clear e0 e1 e2 hK2 hB3 bR2 hB4 bR3 b3
    go_wp2
    have bF := HF.out
    have gB := HB.out
    have gG := HG.out
    clear HF HB HG
    generalize (w3.setCell ⟨w.heap.size + 1, 0, none⟩ (.int .i64 x)).setCell ⟨w.heap.size + 1, 1, none⟩ (.int .i64 y) = WF at bF gB ⊢
    obtain ⟨z0, z1⟩ : WF.cell? ⟨w.heap.size + 1, 0, none⟩ = some (.int .i64 x) ∧ WF.cell? ⟨w.heap.size + 1, 1, none⟩ = some (.int .i64 y) := by simp [World.cell?, bF]
    exact bodyPost_ret (v := .tuple #[kv x y, .bool (rootB ks)]) (by simp [results, Try.results13, go_sem, z0, z1]) rfl ⟨by rw [gG.1, gG.2], gB⟩

end Go.Proofs.Ythgiphbejpihaaa
