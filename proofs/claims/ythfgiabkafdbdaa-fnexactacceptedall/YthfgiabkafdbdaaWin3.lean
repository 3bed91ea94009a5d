
/- What the exact laws' helpers on windows do: szWindow, toWindow, eqWindow, markWindow, heldWindow. -/
import Derived.Test.YthfgiabkafdbdaaWin2
import Derived.Test.YthfgiabkafdbdaaIntsP
namespace Go.Proofs.Ythfgiabkafdbdaa.Wn
open Go.RowKit

abbrev lwb (top : Int) (v : Value) : Obj := .cells #[.int .i64 top, v] 39
theorem lcellW (w : World) (x : Int) (v : Value) : (w.alloc (lwb x v)).cell? ⟨w.heap.size, 0, none⟩ = some (.int .i64 x) ∧ (w.alloc (lwb x v)).cell? ⟨w.heap.size, 1, none⟩ = some v := by simp
theorem szWindow_any (top : Int) (a : Option Addr) (n c : Nat) (l : Int) (w : World) (hl : 0 ≤ l) (hl2 : l ≤ 1048576) (hn : n ≤ maxLen) :
    Calls Try.prog 20 #[wv top (.slice a n c), .int .i64 l] w fun e w' => e = .returned (.int .i64 (if l - (n : Int) < 0 then -1 else l - (n : Int))) ∧ w' = w.alloc (lwb top (.slice a n c)) := by
  by_cases h : l - (n : Int) < 0
  · have hif : (if l - (n : Int) < 0 then (-1 : Int) else l - (n : Int)) = -1 := if_pos h
    go_enter Try.func20, Try.ntmps20
    go_wp2_with fail
    refine (szInt64S_any _ _ _ _ _ hl hl2 hn).mono ?_
    rintro e w' ⟨rfl, hww⟩
    subst w'
    rw [hif]
    go_wp2
    go_ret
    exact ⟨rfl, rfl⟩
  · have hif : (if l - (n : Int) < 0 then (-1 : Int) else l - (n : Int)) = l - (n : Int) := if_neg h
    go_enter Try.func20, Try.ntmps20
    go_wp2_with fail
    refine (szInt64S_any _ _ _ _ _ hl hl2 hn).mono ?_
    rintro e w' ⟨rfl, hww⟩
    subst w'
    rw [hif]
    go_wp2
    go_ret
    exact ⟨rfl, rfl⟩

set_option maxHeartbeats 1000000 in
theorem toWindow_any (top : Int) (v : Value) (xs : List Int) (w : World) (h : InInts v xs w) (hn : xs.length ≤ 1048576) :
    Calls Try.prog 21 #[wv top v] w fun e w' => ∃ v', e = .returned (wv top v') ∧ Ints w.heap.size v' xs w' ∧ Below w.heap.size w w' := by
  have hB0 : Below w.heap.size w (((w.alloc (lwb top v)).alloc (wb 0 (.slice none 0 0))).alloc (wb top (.slice none 0 0))) := (two_below w _ _).alloc (by simp; omega) _
  have b1 : (((w.alloc (lwb top v)).alloc (wb 0 (.slice none 0 0))).alloc (wb top (.slice none 0 0))).heap[w.heap.size + 1]? = some (wb 0 (.slice none 0 0)) := by
    rw [Below.heap_alloc _ _ _ (by simp)]
    have := heap_alloc_new (w.alloc (lwb top v)) (wb 0 (.slice none 0 0))
    simpa using this
  have b2 : (((w.alloc (lwb top v)).alloc (wb 0 (.slice none 0 0))).alloc (wb top (.slice none 0 0))).heap[w.heap.size + 1 + 1]? = some (wb top (.slice none 0 0)) := by
    have := heap_alloc_new ((w.alloc (lwb top v)).alloc (wb 0 (.slice none 0 0))) (wb top (.slice none 0 0))
    simpa using this
  have hs0 : (((w.alloc (lwb top v)).alloc (wb 0 (.slice none 0 0))).alloc (wb top (.slice none 0 0))).heap.size = w.heap.size + 1 + 1 + 1 := by simp
  have HI : Hid (InInts v xs (((w.alloc (lwb top v)).alloc (wb 0 (.slice none 0 0))).alloc (wb top (.slice none 0 0)))) := h.below hB0 (Nat.le_refl _)
  clear h
  go_enter Try.func21, Try.ntmps21
  go_wp2_with fail
  generalize ((w.alloc (lwb top v)).alloc (wb 0 (.slice none 0 0))).alloc (wb top (.slice none 0 0)) = w0 at hB0 b1 b2 hs0 HI ⊢
  refine (toInt64S_any v xs w0 HI.out hn).mono ?_
  rintro e w2 ⟨v', rfl, _, k2, hb2⟩
  obtain ⟨a', c', rfl, _, _⟩ := k2.row
  generalize hv' : Value.slice a' xs.length c' = v' at k2
  have d1 := (hb2.block (w.heap.size + 1) (by omega)).trans b1
  have d2 := (hb2.block (w.heap.size + 1 + 1) (by omega)).trans b2
  have hB2 := more hB0 hb2
  have hsz := hb2.size
  have hlt := k2.lt
  obtain ⟨⟨p0, p1⟩, f0, f1⟩ := box2 d2
  obtain ⟨⟨q0, q1⟩, e0, e1⟩ := box2 d1
  clear HI b1 b2
  have HF : Hid ((((w2.setCell ⟨w.heap.size + 1 + 1, 1, none⟩ v').setCell ⟨w.heap.size + 1, 0, none⟩ (.int .i64 top)).setCell ⟨w.heap.size + 1, 1, none⟩ v').heap[w.heap.size + 1]? = some (wb top v')) := box2_set1 (box2_set0 (blk (grown_set _ _ _ _) d1 (by omega)) _) _
  have HB : Hid (Below w.heap.size w (((w2.setCell ⟨w.heap.size + 1 + 1, 1, none⟩ v').setCell ⟨w.heap.size + 1, 0, none⟩ (.int .i64 top)).setCell ⟨w.heap.size + 1, 1, none⟩ v')) := ((hB2.setCell (by simp; omega) _).setCell (by simp) _).setCell (by simp) _
  have HK : Hid (Ints w.heap.size v' xs (((w2.setCell ⟨w.heap.size + 1 + 1, 1, none⟩ v').setCell ⟨w.heap.size + 1, 0, none⟩ (.int .i64 top)).setCell ⟨w.heap.size + 1, 1, none⟩ v')) :=
    (((k2.mono (by omega)).kept (grown_set _ _ _ _) (fun k e e' => by cases e; have := (hlt _ e').1; omega)).kept (grown_set _ _ _ _) (fun k e e' => by cases e; have := (hlt _ e').1; omega)).kept (grown_set _ _ _ _) (fun k e e' => by cases e; have := (hlt _ e').1; omega)
  clear d1 d2 hB2 hlt k2 hb2
  subst hv'
  go_wp2
  have bF := HF.out
  have gB := HB.out
  have gK := HK.out
  clear HF HB HK
  generalize ((w2.setCell ⟨w.heap.size + 1 + 1, 1, none⟩ (.slice a' xs.length c')).setCell ⟨w.heap.size + 1, 0, none⟩ (.int .i64 top)).setCell ⟨w.heap.size + 1, 1, none⟩ (.slice a' xs.length c') = WF at bF gB gK ⊢
  obtain ⟨⟨z0, z1⟩, _, _⟩ := box2 bF
  exact bodyPost_ret (v := wv top (.slice a' xs.length c')) (by simp [results, Try.results21, go_sem, z0, z1]) rfl ⟨_, rfl, gK, gB⟩

def sameW (top : Int) (xs : List Int) (top' : Int) (xs' : List Int) : Bool := decide (top = top') && eqI xs xs'
theorem sameW_self (top : Int) (xs : List Int) : sameW top xs top xs = true := by simp [sameW, eqI]
set_option maxHeartbeats 1000000 in
theorem eqWindow_any {B C : Nat} {u v : Value} {ks ks' : List Int} {w : World} (id id' : Int) (hx : Ints B u ks w) (hy : Ints C v ks' w) :
    Calls Try.prog 22 #[wv id u, wv id' v] w fun e w' => e = .returned (.bool (sameW id ks id' ks')) ∧ Below w.heap.size w w' := by
  have hB2 := two_below w (wb id u) (wb id' v)
  obtain ⟨c0, c1⟩ := cellW w id u
  have d0 := cell_since c0 (one_below _ (wb id' v))
  have d1 := cell_since c1 (one_below _ (wb id' v))
  obtain ⟨p0, p1⟩ := cellW (w.alloc (wb id u)) id' v
  have HX : Hid (Ints B u ks ((w.alloc (wb id u)).alloc (wb id' v))) := hx.since hB2
  have HY : Hid (Ints C v ks' ((w.alloc (wb id u)).alloc (wb id' v))) := hy.since hB2
  clear c0 c1 hx hy
  simp only [World.size_alloc] at p0 p1
  by_cases h1 : id = id'
  · have h1' : (id == id') = true := by simpa using h1
    subst h1
    have HS : Hid (sameW id ks id ks' = eqI ks ks') := by show sameW id ks id ks' = _; simp [sameW]
    go_enter Try.func22, Try.ntmps22
    go_wp2_with fail
    refine (eqInt64S_any HX.out HY.out).mono ?_
    rintro e w2 ⟨rfl, b2⟩
    have HB : Hid (Below w.heap.size w w2) := by first | exact more hB2 b2 | (rw [b2]; exact hB2) | (obtain ⟨q, rfl⟩ := b2; exact below_drewN hB2 q)
    clear HX HY d0 d1 p0 p1
    cases hq : eqI ks ks' with
    | true =>
      go_wp2
      go_ret
      exact ⟨by rw [HS.out, hq]; rfl, HB.out⟩
    | false =>
      go_wp2
      go_ret
      exact ⟨by rw [HS.out, hq]; rfl, HB.out⟩
  · have h1' : (id == id') = false := by simpa using h1
    have HS : Hid (sameW id ks id' ks' = false) := by show sameW id ks id' ks' = _; simp [sameW, h1]
    go_enter Try.func22, Try.ntmps22
    go_wp2
    go_ret
    exact ⟨by rw [HS.out]; rfl, hB2⟩

set_option maxHeartbeats 1000000 in
theorem markWindow_any {B : Nat} {x : Value} {vs : List Int} {w : World} (ep k : Int) (h : Ints B x vs w) (hk : 0 ≤ k) (hs : k + vs.length ≤ 4611686018427387904) :
    Calls Try.prog 23 #[wv ep x, .int .i64 k] w fun e w' => e = .returned (.int .i64 (k + vs.length)) ∧ Ints B x (marks k vs.length) w' ∧ w.grownBy w' x.ownBlock := by
  have hB1 := one_below w (wb ep x)
  obtain ⟨c0, c1⟩ := cellW w ep x
  have H1 : Hid (Ints B x vs (w.alloc (wb ep x))) := h.since hB1
  have hG : w.grownBy (w.alloc (wb ep x)) x.ownBlock := World.grownBy_alloc _ _ _
  clear h
  go_enter Try.func23, Try.ntmps23
  go_wp2_with fail
  generalize w.alloc (wb ep x) = w1 at *
  refine (markInt64S_any k H1.out hk (by omega)).mono ?_
  rintro e w2 ⟨rfl, m2, g2⟩
  have HG : Hid (w.grownBy w2 x.ownBlock) := hG.trans g2
  have M2 : Hid (Ints B x (marks k vs.length) w2) := m2
  clear m2 g2 hG H1 c0 c1
  go_wp2
  go_ret
  exact ⟨rfl, M2.out, HG.out⟩

set_option maxHeartbeats 1000000 in
theorem heldWindow_any {B : Nat} {x : Value} {w : World} (ep k : Int) (n : Nat) (h : Ints B x (marks k n) w) (hk : 0 ≤ k) (hs : k + n ≤ 4611686018427387904) :
    Calls Try.prog 24 #[wv ep x, .int .i64 k] w fun e w' => e = .returned (.int .i64 (k + n)) ∧ Below w.heap.size w w' := by
  have hB1 := one_below w (wb ep x)
  obtain ⟨c0, c1⟩ := cellW w ep x
  have H1 : Hid (Ints B x (marks k n) (w.alloc (wb ep x))) := h.since hB1
  have hge : ¬ k + (n : Int) < 0 := by omega
  clear h
  go_enter Try.func24, Try.ntmps24
  go_wp2_with fail
  generalize w.alloc (wb ep x) = w1 at *
  refine (heldInt64S_any k n H1.out hk (by omega)).mono ?_
  rintro e w' ⟨rfl, hww⟩
  subst w'
  have HB : Hid (Below w.heap.size w w1) := hB1
  go_wp2
  go_ret
  exact ⟨rfl, HB.out⟩
end Go.Proofs.Ythfgiabkafdbdaa.Wn
