
/- Accepted of the program. -/
import Derived.Test.YthfgiabkafdbdaaWin6
namespace Go.Proofs.Ythfgiabkafdbdaa.Wn
open Go.RowKit

/-- What accepting answers: nothing where the window is not right. -/
def ansT (top : Int) (xs : List Int) (n : Int) : Int := if windowB top xs = true then accT top xs n else 0
def ansX (top : Int) (xs : List Int) (n : Int) : List Int := if windowB top xs = true then accX top xs n else []
def ansB (top : Int) (xs : List Int) (n : Int) : Bool := if windowB top xs = true then accB top xs n else false
theorem acc_told {b : Nat} {top n : Int} {xs : List Int} (h : HasBits b top xs) (hw : WinOk top xs) : winTo (accTop top n) (accBits b top n) 32 = accX top xs n := by
  obtain ⟨e, h1⟩ := h.acc (n := n) hw
  have hw' := hw.acc (n := n)
  rw [← e] at hw'
  exact winTo_all h1 hw'.up (fun x hx => (hw'.all x hx).2)

set_option maxRecDepth 100000 in
set_option maxHeartbeats 2000000 in
theorem accepted_any {B : Nat} {v : Value} {xs : List Int} {w : World} (top n : Int) (h : Ints B v xs w) :
    Calls Try.prog 11 #[wv top v, .int .i64 n] w fun e w' => ∃ v', e = .returned (.tuple #[wv (ansT top xs n) v', .bool (ansB top xs n)]) ∧ Ints w.heap.size v' (ansX top xs n) w' ∧ Below w.heap.size w w' := by
  obtain ⟨a, c, hv, hm, _⟩ := h.row
  subst hv
  have hB0 := two_below w (wb top (.slice a xs.length c)) (wb 0 (.slice none 0 0))
  obtain ⟨c0, c1⟩ := cellW w top (.slice a xs.length c)
  have d0 := cell_since c0 (one_below _ (wb 0 (.slice none 0 0)))
  have d1 := cell_since c1 (one_below _ (wb 0 (.slice none 0 0)))
  have t1 : ((w.alloc (wb top (.slice a xs.length c))).alloc (wb 0 (.slice none 0 0))).heap[w.heap.size + 1]? = some (wb 0 (.slice none 0 0)) := by
    have := heap_alloc_new (w.alloc (wb top (.slice a xs.length c))) (wb 0 (.slice none 0 0))
    simpa using this
  have hs0 : ((w.alloc (wb top (.slice a xs.length c))).alloc (wb 0 (.slice none 0 0))).heap.size = w.heap.size + 1 + 1 := by simp
  have HI := hidOf (h.since hB0)
  clear h c0 c1
  go_enter Try.func11, Try.ntmps11
  go_wp2_with fail
  generalize (w.alloc (wb top (.slice a xs.length c))).alloc (wb 0 (.slice none 0 0)) = w0 at *
  refine (windowOk_any top HI.out).mono ?_
  rintro e w2 ⟨rfl, b2⟩
  have hB2 := more hB0 b2
  have s1 := (b2.block (w.heap.size + 1) (by omega)).trans t1
  have e0 := cell_since d0 b2
  have e1 := cell_since d1 b2
  have I2 := hidOf (HI.out.since b2)
  have hs2 := b2.size
  clear HI d0 d1 t1 hB0 b2
  obtain ⟨⟨y0, y1⟩, j0, j1⟩ := box2 s1
  cases hok : windowB top xs with
  | false =>
    have HA := hidOf (show ansT top xs n = 0 ∧ ansX top xs n = [] ∧ ansB top xs n = false by simp [ansT, ansX, ansB, hok])
    have HF : Hid (((w2.setCell ⟨w.heap.size + 1, 0, none⟩ (.int .i64 0)).setCell ⟨w.heap.size + 1, 1, none⟩ (.slice none 0 0)).heap[w.heap.size + 1]? = some (wb 0 (.slice none 0 0))) := box2_set1 (box2_set0 s1 _) _
    have HB' : Hid (Below w.heap.size w ((w2.setCell ⟨w.heap.size + 1, 0, none⟩ (.int .i64 0)).setCell ⟨w.heap.size + 1, 1, none⟩ (.slice none 0 0))) := (hB2.setCell (by simp) _).setCell (by simp) _
    clear s1
    go_wp2
    have bF := HF.out
    have gB := HB'.out
    have gA := HA.out
    clear HF HB' HA
    generalize (w2.setCell ⟨w.heap.size + 1, 0, none⟩ (.int .i64 0)).setCell ⟨w.heap.size + 1, 1, none⟩ (.slice none 0 0) = WF at bF gB ⊢
    obtain ⟨⟨z0, z1⟩, _, _⟩ := box2 bF
    exact bodyPost_ret (v := .tuple #[wv 0 (.slice none 0 0), .bool false]) (by simp [results, Try.results11, go_sem, z0, z1]) rfl ⟨.slice none 0 0, by rw [gA.1, gA.2.2], by rw [gA.2.1]; exact ⟨by simp, .inl ⟨rfl, rfl⟩⟩, gB⟩
  | true =>
    have hw := windowB_ok hok
    have HW := hidOf hw
    have HA := hidOf (show ansT top xs n = accT top xs n ∧ ansX top xs n = accX top xs n ∧ ansB top xs n = accB top xs n by simp [ansT, ansX, ansB, hok])
    clear hw
    go_wp2_with fail
    refine (bitsOf_any top I2.out HW.out).mono ?_
    rintro e w3 ⟨b, rfl, hb3, b3⟩
    have s3 := (b3.block (w.heap.size + 1) (by omega)).trans s1
    have hB3 := more hB2 b3
    have hs3 := b3.size
    have HBt := hidOf hb3
    have u3 : (w3.alloc (bb top b)).heap[w3.heap.size]? = some (bb top b) := heap_alloc_new _ _
    have s4 : (w3.alloc (bb top b)).heap[w.heap.size + 1]? = some (wb 0 (.slice none 0 0)) := by rw [Below.heap_alloc _ _ _ (by omega)]; exact s3
    have hB4 : Below w.heap.size w (w3.alloc (bb top b)) := hB3.alloc hB3.size _
    have hs4 : (w3.alloc (bb top b)).heap.size = w3.heap.size + 1 := by simp
    clear hb3 b3 s1 s3 e0 e1 I2 y0 y1 j0 j1
    go_wp2_with fail
    generalize hgen : w3.alloc (bb top b) = w4 at *
    refine (accept_any top n u3 HBt.out HW.out).mono ?_
    rintro e w5 ⟨rfl, u5, g5⟩
    have s5 := blk g5 s4 (by omega)
    have hB5 : Below w.heap.size w w5 := hB4.grown g5 hB4.size (fun k e => by cases e; omega)
    have hs5 := g5.size
    obtain ⟨⟨q0, q1⟩, _, _⟩ := box2 u5
    have hr := (HW.out.acc (n := n)).range
    have hac := HBt.out.acc (n := n) HW.out
    have HT := hidOf (acc_told (n := n) HBt.out HW.out)
    have HE := hidOf hac.1
    have hbl := hac.2.1
    rw [← hac.1] at hr
    clear hac u5 g5 u3 s4 hB4 HBt
    generalize accTop top n = T at *
    generalize accBits b top n = bq at *
    go_wp2_with fail
    refine (windowM_any T bq hbl hr).mono ?_
    rintro e w6 ⟨v6, rfl, k6, b6⟩
    obtain ⟨a6, c6, hv6, _, _⟩ := k6.row
    subst hv6
    have hT := HT.out
    rw [hT] at k6
    have s6 := (b6.block (w.heap.size + 1) (by omega)).trans s5
    have hB6 := more hB5 b6
    have hs6 := b6.size
    obtain ⟨⟨y0, y1⟩, j0, j1⟩ := box2 s6
    rw [hT]
    have hlt := k6.lt
    generalize hL : (accX top xs n).length = ln at *
    have HF : Hid (((w6.setCell ⟨w.heap.size + 1, 0, none⟩ (.int .i64 T)).setCell ⟨w.heap.size + 1, 1, none⟩ (.slice a6 ln c6)).heap[w.heap.size + 1]? = some (wb T (.slice a6 ln c6))) := box2_set1 (box2_set0 s6 _) _
    have HB' : Hid (Below w.heap.size w ((w6.setCell ⟨w.heap.size + 1, 0, none⟩ (.int .i64 T)).setCell ⟨w.heap.size + 1, 1, none⟩ (.slice a6 ln c6))) := (hB6.setCell (by simp) _).setCell (by simp) _
    have HK : Hid (Ints w.heap.size (.slice a6 ln c6) (accX top xs n) ((w6.setCell ⟨w.heap.size + 1, 0, none⟩ (.int .i64 T)).setCell ⟨w.heap.size + 1, 1, none⟩ (.slice a6 ln c6))) :=
      ((k6.mono (by omega)).kept (grown_set _ _ _ _) (fun k e e' => by cases e; have := (hlt _ e').1; omega)).kept (grown_set _ _ _ _) (fun k e e' => by cases e; have := (hlt _ e').1; omega)
    clear s6 s5 k6 hlt b6
    go_wp2
    have bF := HF.out
    have gB := HB'.out
    have gA := HA.out
    have gK := HK.out
    have gE := HE.out
    clear HF HB' HA HK
    generalize (w6.setCell ⟨w.heap.size + 1, 0, none⟩ (.int .i64 T)).setCell ⟨w.heap.size + 1, 1, none⟩ (.slice a6 ln c6) = WF at bF gB gK ⊢
    obtain ⟨⟨z0, z1⟩, _, _⟩ := box2 bF
    exact bodyPost_ret (v := .tuple #[wv T (.slice a6 ln c6), .bool (accB top xs n)]) (by simp [results, Try.results11, go_sem, z0, z1]) rfl ⟨.slice a6 ln c6, by rw [gA.1, gA.2.2, gE], by rw [gA.2.1]; exact gK, gB⟩
end Go.Proofs.Ythfgiabkafdbdaa.Wn
