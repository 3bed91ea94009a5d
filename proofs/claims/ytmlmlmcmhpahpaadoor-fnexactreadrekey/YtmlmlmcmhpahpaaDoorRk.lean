
/- What the exact laws' helpers on rekeys do: toRekey, szRekey, eqRekey, markRekey. -/
import Derived.Test.YtmlmlmcmhpahpaaDoorAp0
import Derived.Test.YtmlmlmcmhpahpaaDoorToWraps
import Derived.Test.YtmlmlmcmhpahpaaDoorEqWraps
import Derived.Test.YtmlmlmcmhpahpaaDoorMarkW
import Derived.Test.YtmlmlmcmhpahpaaDoorBox3
namespace Go.Proofs.YtmlmlmcmhpahpaaDoor
open Go.RowKit

abbrev lrb (ep : Int) (x : Value) : Obj := .cells #[.int .i64 ep, x] 34
theorem box2R {R : Nat} {W : World} {u v : Value} {t : TypeId} (h : W.heap[R]? = some (.cells #[u, v] t)) :
    (W.cell? ⟨R, 0, none⟩ = some u ∧ W.cell? ⟨R, 1, none⟩ = some v) ∧ W.frozen? ⟨R, 0, none⟩ = false ∧ W.frozen? ⟨R, 1, none⟩ = false := by
  simp [World.cell?, World.frozen?, h]
theorem box2R_set0 {R : Nat} {W : World} {u v : Value} {t : TypeId} (h : W.heap[R]? = some (.cells #[u, v] t)) (y : Value) : (W.setCell ⟨R, 0, none⟩ y).heap[R]? = some (.cells #[y, v] t) := by
  simp [World.setCell, Array.getElem?_modify, h]
theorem box2R_set1 {R : Nat} {W : World} {u v : Value} {t : TypeId} (h : W.heap[R]? = some (.cells #[u, v] t)) (y : Value) : (W.setCell ⟨R, 1, none⟩ y).heap[R]? = some (.cells #[u, y] t) := by
  simp [World.setCell, Array.getElem?_modify, h]
theorem wrapsKept {B : Nat} {v : Value} {ws : List W4} {W W' : World} {row : Option Nat} (h : Wraps B v ws W) (hg : W.grownBy W' row) (hne : ∀ k, row = some k → v.ownBlock ≠ some k) : Wraps B v ws W' :=
  RowF.kept (r := ⟨B, 63, 4, v, ws.length, wcells ws⟩) h hg hne
theorem wrapsRow {B : Nat} {v : Value} {ws : List W4} {w : World} (h : Wraps B v ws w) : ∃ a c, v = .slice a ws.length c := by
  rcases h.form with ⟨rfl, rfl⟩ | ⟨g, cap, rfl, _⟩ <;> exact ⟨_, _, rfl⟩

set_option maxHeartbeats 1000000 in
theorem szRekey_any (top : Int) (a : Option Addr) (n c : Nat) (l : Int) (w : World) (hl : 0 ≤ l) (hl2 : l ≤ 1048576) (hn : n ≤ maxLen) :
    Calls Tryd.prog 13 #[rv top (.slice a n c), .int .i64 l] w fun e w' => e = .returned (.int .i64 (if l - (n : Int) < 0 then -1 else l - (n : Int))) ∧ w' = w.alloc (lrb top (.slice a n c)) := by
  by_cases h : l - (n : Int) < 0
  · have hif : (if l - (n : Int) < 0 then (-1 : Int) else l - (n : Int)) = -1 := if_pos h
    go_enter Tryd.func13, Tryd.ntmps13
    go_wp2_with fail
    refine (szWrapS_any _ _ _ _ _ hl hl2 hn).mono ?_
    rintro e w' ⟨rfl, hww⟩
    subst w'
    rw [hif]
    go_wp2
    go_ret
    exact ⟨rfl, rfl⟩
  · have hif : (if l - (n : Int) < 0 then (-1 : Int) else l - (n : Int)) = l - (n : Int) := if_neg h
    go_enter Tryd.func13, Tryd.ntmps13
    go_wp2_with fail
    refine (szWrapS_any _ _ _ _ _ hl hl2 hn).mono ?_
    rintro e w' ⟨rfl, hww⟩
    subst w'
    rw [hif]
    go_wp2
    go_ret
    exact ⟨rfl, rfl⟩

set_option maxHeartbeats 1000000 in
theorem toRekey_any (top : Int) (v : Value) (xs : List W4) (w : World) (h : InWraps v xs w) (hn : xs.length ≤ 1048576) :
    Calls Tryd.prog 15 #[rv top v] w fun e w' => ∃ v', e = .returned (rv top v') ∧ Wraps w.heap.size v' xs w' ∧ Below w.heap.size w w' := by
  have hB0 : Below w.heap.size w (((w.alloc (lrb top v)).alloc (rb 0 (.slice none 0 0))).alloc (rb top (.slice none 0 0))) := (two_below w _ _).alloc (by simp; omega) _
  have b1 : (((w.alloc (lrb top v)).alloc (rb 0 (.slice none 0 0))).alloc (rb top (.slice none 0 0))).heap[w.heap.size + 1]? = some (rb 0 (.slice none 0 0)) := by
    rw [Below.heap_alloc _ _ _ (by simp)]
    have := heap_alloc_new (w.alloc (lrb top v)) (rb 0 (.slice none 0 0))
    simpa using this
  have b2 : (((w.alloc (lrb top v)).alloc (rb 0 (.slice none 0 0))).alloc (rb top (.slice none 0 0))).heap[w.heap.size + 1 + 1]? = some (rb top (.slice none 0 0)) := by
    have := heap_alloc_new ((w.alloc (lrb top v)).alloc (rb 0 (.slice none 0 0))) (rb top (.slice none 0 0))
    simpa using this
  have hs0 : (((w.alloc (lrb top v)).alloc (rb 0 (.slice none 0 0))).alloc (rb top (.slice none 0 0))).heap.size = w.heap.size + 1 + 1 + 1 := by simp
  have HI : Hid (InWraps v xs (((w.alloc (lrb top v)).alloc (rb 0 (.slice none 0 0))).alloc (rb top (.slice none 0 0)))) := h.below hB0 (Nat.le_refl _)
  clear h
  go_enter Tryd.func15, Tryd.ntmps15
  go_wp2_with fail
  generalize ((w.alloc (lrb top v)).alloc (rb 0 (.slice none 0 0))).alloc (rb top (.slice none 0 0)) = w0 at hB0 b1 b2 hs0 HI ⊢
  refine (toWrapS_any v xs w0 HI.out hn).mono ?_
  rintro e w2 ⟨v', rfl, _, k2, hb2⟩
  obtain ⟨a', c', rfl⟩ := wrapsRow k2
  generalize hv' : Value.slice a' xs.length c' = v' at k2
  have d1 := (hb2.block (w.heap.size + 1) (by omega)).trans b1
  have d2 := (hb2.block (w.heap.size + 1 + 1) (by omega)).trans b2
  have hB2 := more hB0 hb2
  have hsz := hb2.size
  have hlt := k2.lt
  obtain ⟨⟨p0, p1⟩, f0, f1⟩ := box2R d2
  obtain ⟨⟨q0, q1⟩, e0, e1⟩ := box2R d1
  clear HI b1 b2
  have HF : Hid ((((w2.setCell ⟨w.heap.size + 1 + 1, 1, none⟩ v').setCell ⟨w.heap.size + 1, 0, none⟩ (.int .i64 top)).setCell ⟨w.heap.size + 1, 1, none⟩ v').heap[w.heap.size + 1]? = some (rb top v')) := box2R_set1 (box2R_set0 (blk' (grown_set _ _ _ _) d1 (by omega)) _) _
  have HB : Hid (Below w.heap.size w (((w2.setCell ⟨w.heap.size + 1 + 1, 1, none⟩ v').setCell ⟨w.heap.size + 1, 0, none⟩ (.int .i64 top)).setCell ⟨w.heap.size + 1, 1, none⟩ v')) := ((hB2.setCell (by simp; omega) _).setCell (by simp) _).setCell (by simp) _
  have HK : Hid (Wraps w.heap.size v' xs (((w2.setCell ⟨w.heap.size + 1 + 1, 1, none⟩ v').setCell ⟨w.heap.size + 1, 0, none⟩ (.int .i64 top)).setCell ⟨w.heap.size + 1, 1, none⟩ v')) :=
    wrapsKept (wrapsKept (wrapsKept (k2.mono (by omega)) (grown_set _ _ _ _) (fun k e e' => by cases e; have := (hlt _ e').1; omega)) (grown_set _ _ _ _) (fun k e e' => by cases e; have := (hlt _ e').1; omega)) (grown_set _ _ _ _) (fun k e e' => by cases e; have := (hlt _ e').1; omega)
  clear d1 d2 hB2 hlt k2 hb2
  subst hv'
  go_wp2
  have bF := HF.out
  have gB := HB.out
  have gK := HK.out
  clear HF HB HK
  generalize ((w2.setCell ⟨w.heap.size + 1 + 1, 1, none⟩ (.slice a' xs.length c')).setCell ⟨w.heap.size + 1, 0, none⟩ (.int .i64 top)).setCell ⟨w.heap.size + 1, 1, none⟩ (.slice a' xs.length c') = WF at bF gB gK ⊢
  obtain ⟨⟨z0, z1⟩, _, _⟩ := box2R bF
  exact bodyPost_ret (v := rv top (.slice a' xs.length c')) (by simp [results, Tryd.results15, go_sem, z0, z1]) rfl ⟨_, rfl, gK, gB⟩

def sameR (top : Int) (xs : List W4) (top' : Int) (xs' : List W4) : Bool := decide (top = top') && eqLW xs xs'
theorem sameR_self (top : Int) (xs : List W4) : sameR top xs top xs = true := by simp [sameR, eqLW]
set_option maxHeartbeats 1000000 in
theorem eqRekey_any {B C : Nat} {u v : Value} {ks ks' : List W4} {w : World} (id id' : Int) (hx : Wraps B u ks w) (hy : Wraps C v ks' w) :
    Calls Tryd.prog 17 #[rv id u, rv id' v] w fun e w' => e = .returned (.bool (sameR id ks id' ks')) ∧ Below w.heap.size w w' := by
  have hB2 := two_below w (rb id u) (rb id' v)
  obtain ⟨c0, c1⟩ := rcell2 w id u
  have d0 := cell_since c0 (one_below _ (rb id' v))
  have d1 := cell_since c1 (one_below _ (rb id' v))
  obtain ⟨p0, p1⟩ := rcell2 (w.alloc (rb id u)) id' v
  have HX : Hid (Wraps B u ks ((w.alloc (rb id u)).alloc (rb id' v))) := wrapsSince hx hB2
  have HY : Hid (Wraps C v ks' ((w.alloc (rb id u)).alloc (rb id' v))) := wrapsSince hy hB2
  clear c0 c1 hx hy
  simp only [World.size_alloc] at p0 p1
  by_cases h1 : id = id'
  · have h1' : (id == id') = true := by simpa using h1
    subst h1
    have HS : Hid (sameR id ks id ks' = eqLW ks ks') := by show sameR id ks id ks' = _; simp [sameR]
    go_enter Tryd.func17, Tryd.ntmps17
    go_wp2_with fail
    refine (eqWrapS_any HX.out HY.out).mono ?_
    rintro e w2 ⟨rfl, b2⟩
    have HB : Hid (Below w.heap.size w w2) := more hB2 b2
    clear HX HY d0 d1 p0 p1
    cases hq : eqLW ks ks' with
    | true =>
      go_wp2
      go_ret
      exact ⟨by rw [HS.out, hq]; rfl, HB.out⟩
    | false =>
      go_wp2
      go_ret
      exact ⟨by rw [HS.out, hq]; rfl, HB.out⟩
  · have h1' : (id == id') = false := by simpa using h1
    have HS : Hid (sameR id ks id' ks' = false) := by show sameR id ks id' ks' = _; simp [sameR, h1]
    go_enter Tryd.func17, Tryd.ntmps17
    go_wp2
    go_ret
    exact ⟨by rw [HS.out]; rfl, hB2⟩

set_option maxHeartbeats 1000000 in
theorem markRekey_any {B : Nat} {x : Value} {vs : List W4} {w : World} (ep k : Int) (h : Wraps B x vs w) (hk : 0 ≤ k) (hs : k + 4 * vs.length ≤ 4611686018427387904) :
    Calls Tryd.prog 20 #[rv ep x, .int .i64 k] w fun e w' => e = .returned (.int .i64 (k + 4 * vs.length)) ∧ w.grownBy w' x.ownBlock := by
  have hB1 := one_below w (rb ep x)
  obtain ⟨c0, c1⟩ := rcell2 w ep x
  have H1 : Hid (Wraps B x vs (w.alloc (rb ep x))) := wrapsSince h hB1
  have hG : w.grownBy (w.alloc (rb ep x)) x.ownBlock := World.grownBy_alloc _ _ _
  clear h
  go_enter Tryd.func20, Tryd.ntmps20
  go_wp2_with fail
  generalize w.alloc (rb ep x) = w1 at *
  refine (markWrapS_any k H1.out hk (by omega)).mono ?_
  rintro e w2 ⟨rfl, g2⟩
  have HG : Hid (w.grownBy w2 x.ownBlock) := hG.trans g2
  clear g2 hG H1 c0 c1
  go_wp2
  go_ret
  exact ⟨rfl, HG.out⟩
end Go.Proofs.YtmlmlmcmhpahpaaDoor
