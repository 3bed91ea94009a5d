
/- The laws' comparison of two members; the root's key of keys, GroupKeyOf of the program and of the model. -/
import Derived.Test.YtplinjepeahahabMem3
namespace Go.Proofs.Ytplinjepeahahab
open Go.RowKit

set_option maxHeartbeats 1000000 in
theorem eqMember_any {B C : Nat} {u v : Value} {ks ks' : List (Int × Int)} {w : World} (id ep id' ep' : Int) (hx : Keys B u ks w) (hy : Keys C v ks' w) :
    Calls Try.prog 10 #[mv id ep u, mv id' ep' v] w fun e w' => e = .returned (.bool (sameM id ep ks id' ep' ks')) ∧ Below w.heap.size w w' := by
  have hB2 := two_below w (mb id ep u) (mb id' ep' v)
  obtain ⟨c0, c1, c2⟩ := cell3 w id ep u
  have d0 := cell_since c0 (one_below _ (mb id' ep' v))
  have d1 := cell_since c1 (one_below _ (mb id' ep' v))
  have d2 := cell_since c2 (one_below _ (mb id' ep' v))
  obtain ⟨p0, p1, p2⟩ := cell3 (w.alloc (mb id ep u)) id' ep' v
  have HX : Hid (Keys B u ks ((w.alloc (mb id ep u)).alloc (mb id' ep' v))) := since hx hB2
  have HY : Hid (Keys C v ks' ((w.alloc (mb id ep u)).alloc (mb id' ep' v))) := since hy hB2
  clear c0 c1 c2 hx hy
  simp only [World.size_alloc] at p0 p1 p2
  by_cases h1 : id = id'
  · have h1' : (id == id') = true := by simpa using h1
    subst h1
    by_cases h2 : ep = ep'
    · have h2' : (ep == ep') = true := by simpa using h2
      subst h2
      have HS : Hid (sameM id ep ks id ep ks' = eqL ks ks') := by show sameM id ep ks id ep ks' = _; simp [sameM]
      go_enter Try.func10, Try.ntmps10
      go_wp2_with fail
      refine (eqKeyS_any HX.out HY.out).mono ?_
      rintro e w2 ⟨rfl, b2⟩
      have HB : Hid (Below w.heap.size w w2) := more hB2 b2
      clear HX HY d0 d1 d2 p0 p1 p2
      cases hq : eqL ks ks' with
      | true =>
        go_wp2
        go_ret
        exact ⟨by rw [HS.out, hq]; rfl, HB.out⟩
      | false =>
        go_wp2
        go_ret
        exact ⟨by rw [HS.out, hq]; rfl, HB.out⟩
    · have h2' : (ep == ep') = false := by simpa using h2
      have HS : Hid (sameM id ep ks id ep' ks' = false) := by show sameM id ep ks id ep' ks' = _; simp [sameM, h2]
      go_enter Try.func10, Try.ntmps10
      go_wp2
      go_ret
      exact ⟨by rw [HS.out]; rfl, hB2⟩
  · have h1' : (id == id') = false := by simpa using h1
    have HS : Hid (sameM id ep ks id' ep' ks' = false) := by show sameM id ep ks id' ep' ks' = _; simp [sameM, h1]
    go_enter Try.func10, Try.ntmps10
    go_wp2
    go_ret
    exact ⟨by rw [HS.out]; rfl, hB2⟩
theorem sameM_self (id ep : Int) (ks : List (Int × Int)) : sameM id ep ks id ep ks = true := by simp [sameM, eqL]

/-- The root's key of keys that rise. -/
def rootB (ks : List (Int × Int)) : Bool := decide (0 < ks.length) && decide ((kAt ks 0).1 = 1)
def rootK (ks : List (Int × Int)) : Int × Int := if rootB ks = true then kAt ks 0 else (0, 0)

set_option maxHeartbeats 1000000 in
theorem l4Root_any {B : Nat} {v : Value} {ks : List (Int × Int)} {w : World} (h : Keys B v ks w) :
    Calls Try.prog 18 #[v] w fun e w' => e = .returned (.tuple #[kv (rootK ks).1 (rootK ks).2, .bool (rootB ks)]) ∧ Below w.heap.size w w' := by
  obtain ⟨a, c, rfl, hm, hrow⟩ := h.row
  clear h
  unfold maxLen at hm
  by_cases h0 : ks = []
  · subst h0
    go_enter Try.func18, Try.ntmps18
    go_wp2
    exact bodyPost_ret (v := .tuple #[kv 0 0, .bool false]) (by simp [results, Try.results18, go_sem]) rfl ⟨rfl, one_below _ _⟩
  · obtain ⟨g, rfl, hg, hseg⟩ : ∃ g, a = some ⟨g, 0, none⟩ ∧ g < w.heap.size ∧ KSeg g 0 ks w := by
      rcases hrow with e | e
      · exact absurd e h0
      · exact e
    have hpos : 0 < ks.length := List.length_pos_iff.2 h0
    obtain ⟨c1, c2⟩ := hseg 0 hpos
    simp only [Nat.zero_add, Nat.zero_mul] at c1 c2
    have HK : Hid (kAt ks 0 = ks[0]) := kAt_get ks 0 hpos
    obtain ⟨x, y, hxy⟩ : ∃ x y, ks[0] = (x, y) := ⟨_, _, rfl⟩
    rw [hxy] at c1 c2 HK
    clear hxy hseg hrow
    by_cases hx : x = 1
    · subst hx
      have hrb : rootB ks = true := by simp [rootB, HK.out, hpos]
      have hrk : rootK ks = (1, y) := by simp [rootK, hrb, HK.out]
      rw [hrk, hrb]
      clear hrb hrk
      have hne : ((ks.length : Int) == 0) = false := by simp; omega
      generalize ks.length = n at hpos hm hne
      go_enter Try.func18, Try.ntmps18
      go_wp2
      exact bodyPost_ret (v := .tuple #[kv 1 y, .bool true]) (by simp [results, Try.results18, go_sem]) rfl ⟨rfl, one_below _ _⟩
    · have hx' : (x == 1) = false := by simpa using hx
      have hrb : rootB ks = false := by simp [rootB, HK.out, hx]
      have hrk : rootK ks = (0, 0) := by simp [rootK, hrb]
      rw [hrk, hrb]
      clear hrb hrk
      have hne : ((ks.length : Int) == 0) = false := by simp; omega
      generalize ks.length = n at hpos hm hne
      go_enter Try.func18, Try.ntmps18
      go_wp2
      exact bodyPost_ret (v := .tuple #[kv 0 0, .bool false]) (by simp [results, Try.results18, go_sem]) rfl ⟨rfl, one_below _ _⟩

set_option maxHeartbeats 1000000 in
theorem rootKey_any {B : Nat} {v : Value} {ks : List (Int × Int)} {w : World} (h : Keys B v ks w) :
    Calls Try.prog 21 #[v] w fun e w' => e = .returned (.tuple #[kv (rootK ks).1 (rootK ks).2, .bool (rootB ks)]) ∧ Below w.heap.size w w' := by
  obtain ⟨a, c, rfl, hm, hrow⟩ := h.row
  clear h
  unfold maxLen at hm
  by_cases h0 : ks = []
  · subst h0
    go_enter Try.func21, Try.ntmps21
    go_wp2
    exact bodyPost_ret (v := .tuple #[kv 0 0, .bool false]) (by simp [results, Try.results21, go_sem]) rfl ⟨rfl, one_below _ _⟩
  · obtain ⟨g, rfl, hg, hseg⟩ : ∃ g, a = some ⟨g, 0, none⟩ ∧ g < w.heap.size ∧ KSeg g 0 ks w := by
      rcases hrow with e | e
      · exact absurd e h0
      · exact e
    have hpos : 0 < ks.length := List.length_pos_iff.2 h0
    obtain ⟨c1, c2⟩ := hseg 0 hpos
    simp only [Nat.zero_add, Nat.zero_mul] at c1 c2
    have HK : Hid (kAt ks 0 = ks[0]) := kAt_get ks 0 hpos
    obtain ⟨x, y, hxy⟩ : ∃ x y, ks[0] = (x, y) := ⟨_, _, rfl⟩
    rw [hxy] at c1 c2 HK
    clear hxy hseg hrow
    by_cases hx : x = 1
    · subst hx
      have hrb : rootB ks = true := by simp [rootB, HK.out, hpos]
      have hrk : rootK ks = (1, y) := by simp [rootK, hrb, HK.out]
      rw [hrk, hrb]
      clear hrb hrk
      have hne : ((ks.length : Int) == 0) = false := by simp; omega
      generalize ks.length = n at hpos hm hne
      go_enter Try.func21, Try.ntmps21
      go_wp2
      exact bodyPost_ret (v := .tuple #[kv 1 y, .bool true]) (by simp [results, Try.results21, go_sem]) rfl ⟨rfl, one_below _ _⟩
    · have hx' : (x == 1) = false := by simpa using hx
      have hrb : rootB ks = false := by simp [rootB, HK.out, hx]
      have hrk : rootK ks = (0, 0) := by simp [rootK, hrb]
      rw [hrk, hrb]
      clear hrb hrk
      have hne : ((ks.length : Int) == 0) = false := by simp; omega
      generalize ks.length = n at hpos hm hne
      go_enter Try.func21, Try.ntmps21
      go_wp2
      exact bodyPost_ret (v := .tuple #[kv 0 0, .bool false]) (by simp [results, Try.results21, go_sem]) rfl ⟨rfl, one_below _ _⟩

end Go.Proofs.Ytplinjepeahahab
