
/- Accepted of the model. -/
import Derived.Test.YthfgiabkafdbdaaWin9
namespace Go.Proofs.Ythfgiabkafdbdaa.Wn
open Go.RowKit

set_option maxRecDepth 100000 in
set_option maxHeartbeats 2000000 in
theorem specAccepted_any {B : Nat} {v : Value} {xs : List Int} {w : World} (top n : Int) (h : Ints B v xs w) :
    Calls Try.prog 12 #[wv top v, .int .i64 n] w fun e w' => ∃ v', e = .returned (.tuple #[wv (ansT top xs n) v', .bool (ansB top xs n)]) ∧ Ints w.heap.size v' (ansX top xs n) w' ∧ Below w.heap.size w w' := by
  obtain ⟨a, c, hv, hm, _⟩ := h.row
  subst hv
  have hB0 := two_below w (wb top (.slice a xs.length c)) (wb 0 (.slice none 0 0))
  obtain ⟨c0, c1⟩ := cellW w top (.slice a xs.length c)
  have d0 := cell_since c0 (one_below _ (wb 0 (.slice none 0 0)))
  have d1 := cell_since c1 (one_below _ (wb 0 (.slice none 0 0)))
  have t1 : ((w.alloc (wb top (.slice a xs.length c))).alloc (wb 0 (.slice none 0 0))).heap[w.heap.size + 1]? = some (wb 0 (.slice none 0 0)) := by
    have := heap_alloc_new (w.alloc (wb top (.slice a xs.length c))) (wb 0 (.slice none 0 0))
    simpa using this
  have hs0 : ((w.alloc (wb top (.slice a xs.length c))).alloc (wb 0 (.slice none 0 0))).heap.size = w.heap.size + 1 + 1 := by simp
  have HI := hidOf (h.since hB0)
  clear h c0 c1
  go_enter Try.func12, Try.ntmps12
  go_wp2_with fail
  generalize (w.alloc (wb top (.slice a xs.length c))).alloc (wb 0 (.slice none 0 0)) = w0 at *
  refine (specWindowOk_any top HI.out).mono ?_
  rintro e w2 ⟨rfl, b2⟩
  have hB2 := more hB0 b2
  have s1 := (b2.block (w.heap.size + 1) (by omega)).trans t1
  have e0 := cell_since d0 b2
  have e1 := cell_since d1 b2
  have I2 := hidOf (HI.out.since b2)
  have hs2 := b2.size
  clear HI d0 d1 t1 hB0 b2
  obtain ⟨⟨y0, y1⟩, j0, j1⟩ := box2 s1
  cases hok : windowB top xs with
  | false =>
    have HA := hidOf (show ansT top xs n = 0 ∧ ansX top xs n = [] ∧ ansB top xs n = false by simp [ansT, ansX, ansB, hok])
    have HF : Hid (((w2.setCell ⟨w.heap.size + 1, 0, none⟩ (.int .i64 0)).setCell ⟨w.heap.size + 1, 1, none⟩ (.slice none 0 0)).heap[w.heap.size + 1]? = some (wb 0 (.slice none 0 0))) := box2_set1 (box2_set0 s1 _) _
    have HB' : Hid (Below w.heap.size w ((w2.setCell ⟨w.heap.size + 1, 0, none⟩ (.int .i64 0)).setCell ⟨w.heap.size + 1, 1, none⟩ (.slice none 0 0))) := (hB2.setCell (by simp) _).setCell (by simp) _
    clear s1
    go_wp2
    have bF := HF.out
    have gB := HB'.out
    have gA := HA.out
    clear HF HB' HA
    generalize (w2.setCell ⟨w.heap.size + 1, 0, none⟩ (.int .i64 0)).setCell ⟨w.heap.size + 1, 1, none⟩ (.slice none 0 0) = WF at bF gB ⊢
    obtain ⟨⟨z0, z1⟩, _, _⟩ := box2 bF
    exact bodyPost_ret (v := .tuple #[wv 0 (.slice none 0 0), .bool false]) (by simp [results, Try.results12, go_sem, z0, z1]) rfl ⟨.slice none 0 0, by rw [gA.1, gA.2.2], by rw [gA.2.1]; exact ⟨by simp, .inl ⟨rfl, rfl⟩⟩, gB⟩
  | true =>
    have hw := windowB_ok hok
    have HW := hidOf hw
    have HA := hidOf (show ansT top xs n = accT top xs n ∧ ansX top xs n = accX top xs n ∧ ansB top xs n = accB top xs n by simp [ansT, ansX, ansB, hok])
    clear hw
    go_wp2_with fail
    refine (l6Accepted_any top n I2.out HW.out).mono ?_
    rintro e w6 ⟨v6, rfl, k6, b6⟩
    obtain ⟨a6, c6, hv6, _, _⟩ := k6.row
    subst hv6
    have s6 := (b6.block (w.heap.size + 1) (by omega)).trans s1
    have hB6 := more hB2 b6
    have hs6 := b6.size
    clear y0 y1 j0 j1
    obtain ⟨⟨y0, y1⟩, j0, j1⟩ := box2 s6
    have hlt := k6.lt
    generalize hL : (accX top xs n).length = ln at *
    generalize accT top xs n = T at *
    have HF : Hid (((w6.setCell ⟨w.heap.size + 1, 0, none⟩ (.int .i64 T)).setCell ⟨w.heap.size + 1, 1, none⟩ (.slice a6 ln c6)).heap[w.heap.size + 1]? = some (wb T (.slice a6 ln c6))) := box2_set1 (box2_set0 s6 _) _
    have HB' : Hid (Below w.heap.size w ((w6.setCell ⟨w.heap.size + 1, 0, none⟩ (.int .i64 T)).setCell ⟨w.heap.size + 1, 1, none⟩ (.slice a6 ln c6))) := (hB6.setCell (by simp) _).setCell (by simp) _
    have HK : Hid (Ints w.heap.size (.slice a6 ln c6) (accX top xs n) ((w6.setCell ⟨w.heap.size + 1, 0, none⟩ (.int .i64 T)).setCell ⟨w.heap.size + 1, 1, none⟩ (.slice a6 ln c6))) :=
      ((k6.mono (by omega)).kept (grown_set _ _ _ _) (fun k e e' => by cases e; have := (hlt _ e').1; omega)).kept (grown_set _ _ _ _) (fun k e e' => by cases e; have := (hlt _ e').1; omega)
    clear s6 s1 k6 hlt b6
    go_wp2
    have bF := HF.out
    have gB := HB'.out
    have gA := HA.out
    have gK := HK.out
    clear HF HB' HA HK
    generalize (w6.setCell ⟨w.heap.size + 1, 0, none⟩ (.int .i64 T)).setCell ⟨w.heap.size + 1, 1, none⟩ (.slice a6 ln c6) = WF at bF gB gK ⊢
    obtain ⟨⟨z0, z1⟩, _, _⟩ := box2 bF
    exact bodyPost_ret (v := .tuple #[wv T (.slice a6 ln c6), .bool (accB top xs n)]) (by simp [results, Try.results12, go_sem, z0, z1]) rfl ⟨.slice a6 ln c6, by rw [gA.1, gA.2.2], by rw [gA.2.1]; exact gK, gB⟩
end Go.Proofs.Ythfgiabkafdbdaa.Wn
