
/- AcceptedAll of the model: one number after another. -/
import Derived.Test.YthfgiabkafdbdaaWAll
import Derived.Deep.RegionHeld3
namespace Go.Proofs.Ythfgiabkafdbdaa.Wn
open Go.RowKit

theorem empty_bools (W : World) {S : Nat} (h : W.heap.size = S) : Bools S (.slice (some ⟨S, 0, none⟩) 0 0) [] (W.alloc (.cells #[] 4)) := by
  subst h
  exact World.ownsRow_lit (base := W.heap.size) (size := 1) W #[] 0 (Nat.le_refl _) (by decide) rfl

theorem own_ne {B C : Nat} {v u : Value} {xs : List Int} {ys : List Bool} {W : World} (h : Ints B v xs W) (h' : Bools C u ys W) : ∀ j, v.ownBlock = some j → u.ownBlock ≠ some j := by
  intro j e e'
  rcases h.2 with ⟨rfl, _⟩ | ⟨g, cap, cur, rfl, _, hg, _⟩
  · cases e
  · rcases h'.2 with ⟨rfl, _⟩ | ⟨g', cap', cur', rfl, _, hg', _⟩
    · cases e'
    · simp [Value.ownBlock] at e e'
      subst e e'
      have := hg.symm.trans hg'
      simp at this

set_option maxRecDepth 100000 in
set_option maxHeartbeats 8000000 in
theorem specAcceptedAll_any {B C : Nat} {v u : Value} {xs l : List Int} {w : World} (top : Int) (h : Ints B v xs w) (hl : Ints C u l w) :
    Calls Try.prog 19 #[wv top v, u] w fun e w' => ∃ a c a' c', e = .returned (.tuple #[wv (endT top xs l) (.slice a (endX top xs l).length c), .slice a' (endB top xs l).length c']) ∧ Ints w.heap.size (.slice a (endX top xs l).length c) (endX top xs l) w' ∧ Bools w.heap.size (.slice a' (endB top xs l).length c') (endB top xs l) w' ∧ Below w.heap.size w w' := by
  obtain ⟨i0, hi, hz0, hz1, hz2⟩ := info_parts infoB
  obtain ⟨a, c, hv, hm, _⟩ := h.row
  subst hv
  obtain ⟨al, cl, hu, hml, hrowl⟩ := hl.row
  subst hu
  have HRL := hidOf hrowl
  have hB0 := two_below w (wb top (.slice a xs.length c)) (wb 0 (.slice none 0 0))
  obtain ⟨c0, c1⟩ := cellW w top (.slice a xs.length c)
  have d0 := cell_since c0 (one_below _ (wb 0 (.slice none 0 0)))
  have d1 := cell_since c1 (one_below _ (wb 0 (.slice none 0 0)))
  have t1 : ((w.alloc (wb top (.slice a xs.length c))).alloc (wb 0 (.slice none 0 0))).heap[w.heap.size + 1]? = some (wb 0 (.slice none 0 0)) := by
    have := heap_alloc_new (w.alloc (wb top (.slice a xs.length c))) (wb 0 (.slice none 0 0))
    simpa using this
  have hs0 : ((w.alloc (wb top (.slice a xs.length c))).alloc (wb 0 (.slice none 0 0))).heap.size = w.heap.size + 1 + 1 := by simp
  have HI := hidOf (h.since hB0)
  clear h hl c0 c1 hrowl
  unfold maxLen at hml
  go_enter Try.func19, Try.ntmps19
  go_wp2_with fail
  generalize (w.alloc (wb top (.slice a xs.length c))).alloc (wb 0 (.slice none 0 0)) = w0 at *
  refine (specWindowOk_any top HI.out).mono ?_
  rintro e w2 ⟨rfl, b2⟩
  have hB2 := more hB0 b2
  have s1 := (b2.block (w.heap.size + 1) (by omega)).trans t1
  have e0 := cell_since d0 b2
  have e1 := cell_since d1 b2
  have I2 := hidOf (HI.out.since b2)
  have hs2 := b2.size
  clear HI d0 d1 t1 hB0 b2
  obtain ⟨⟨y0, y1⟩, j0, j1⟩ := box2 s1
  by_cases hall : allOk top xs l
  case neg =>
    have HA := hidOf (show endT top xs l = 0 ∧ endX top xs l = [] ∧ endB top xs l = [] from ⟨if_neg hall, if_neg hall, if_neg hall⟩)
    have HF : Hid (((w2.setCell ⟨w.heap.size + 1, 0, none⟩ (.int .i64 0)).setCell ⟨w.heap.size + 1, 1, none⟩ (.slice none 0 0)).heap[w.heap.size + 1]? = some (wb 0 (.slice none 0 0))) := box2_set1 (box2_set0 s1 _) _
    have HB' : Hid (Below w.heap.size w ((w2.setCell ⟨w.heap.size + 1, 0, none⟩ (.int .i64 0)).setCell ⟨w.heap.size + 1, 1, none⟩ (.slice none 0 0))) := (hB2.setCell (by simp) _).setCell (by simp) _
    clear s1
    cases hok : windowB top xs with
    | false =>
      go_wp2
      have bF := HF.out
      have gB := HB'.out
      obtain ⟨g1, g2, g3⟩ := HA.out
      clear HF HB' HA
      generalize (w2.setCell ⟨w.heap.size + 1, 0, none⟩ (.int .i64 0)).setCell ⟨w.heap.size + 1, 1, none⟩ (.slice none 0 0) = WF at bF gB ⊢
      obtain ⟨⟨z0, z1⟩, _, _⟩ := box2 bF
      exact bodyPost_ret (v := .tuple #[wv 0 (.slice none 0 0), .slice none 0 0]) (by simp [results, Try.results19, go_sem, z0, z1]) rfl ⟨none, 0, none, 0, by rw [g1, g2, g3]; rfl, by rw [g2]; exact ⟨by simp, .inl ⟨rfl, rfl⟩⟩, by rw [g3]; exact nil_bools _ _, gB⟩
    | true =>
      have hlong : 200 < l.length := by
        apply Classical.byContradiction
        intro hc
        exact hall ⟨hok, by omega⟩
      go_wp2
      have bF := HF.out
      have gB := HB'.out
      obtain ⟨g1, g2, g3⟩ := HA.out
      clear HF HB' HA
      generalize (w2.setCell ⟨w.heap.size + 1, 0, none⟩ (.int .i64 0)).setCell ⟨w.heap.size + 1, 1, none⟩ (.slice none 0 0) = WF at bF gB ⊢
      obtain ⟨⟨z0, z1⟩, _, _⟩ := box2 bF
      exact bodyPost_ret (v := .tuple #[wv 0 (.slice none 0 0), .slice none 0 0]) (by simp [results, Try.results19, go_sem, z0, z1]) rfl ⟨none, 0, none, 0, by rw [g1, g2, g3]; rfl, by rw [g2]; exact ⟨by simp, .inl ⟨rfl, rfl⟩⟩, by rw [g3]; exact nil_bools _ _, gB⟩
  obtain ⟨hok, hl200⟩ := hall
  have hw := windowB_ok hok
  have HW := hidOf hw
  have hxl := hw.len
  have HA := hidOf (show endT top xs l = allT top xs l ∧ endX top xs l = allX top xs l ∧ endB top xs l = allB top xs l from ⟨if_pos ⟨hok, hl200⟩, if_pos ⟨hok, hl200⟩, if_pos ⟨hok, hl200⟩⟩)
  clear hw
  rw [hok]
  go_wp2_with fail
  refine (l6Copy_any top I2.out (by omega)).mono ?_
  rintro e w3 ⟨v3, rfl, k3, b3⟩
  obtain ⟨a3, c3, hv3, _, _⟩ := k3.row
  subst hv3
  have s3 := (b3.block (w.heap.size + 1) (by omega)).trans s1
  have hB3 := more hB2 b3
  have hs3 := b3.size
  have u3 : ((w3.alloc (wb top (.slice a3 xs.length c3))).alloc (.cells #[] 4)).heap[w3.heap.size]? = some (wb top (.slice a3 xs.length c3)) := by rw [Below.heap_alloc _ _ _ (by simp)]; exact heap_alloc_new _ _
  have s4 : ((w3.alloc (wb top (.slice a3 xs.length c3))).alloc (.cells #[] 4)).heap[w.heap.size + 1]? = some (wb 0 (.slice none 0 0)) := by rw [Below.heap_alloc _ _ _ (by simp; omega), Below.heap_alloc _ _ _ (by omega)]; exact s3
  have hB4 : Below w.heap.size w ((w3.alloc (wb top (.slice a3 xs.length c3))).alloc (.cells #[] 4)) := (hB3.alloc hB3.size _).alloc (by have := hB3.size; simp; omega) _
  have hs4 : ((w3.alloc (wb top (.slice a3 xs.length c3))).alloc (.cells #[] 4)).heap.size = w3.heap.size + 1 + 1 := by simp
  have K4 := hidOf (k3.since (two_below w3 (wb top (.slice a3 xs.length c3)) (.cells #[] 4)))
  have E4 := hidOf (empty_bools (w3.alloc (wb top (.slice a3 xs.length c3))) (S := w3.heap.size + 1) (by simp))
  have hk3 := k3.lt
  clear k3 b3 s1 s3 e0 e1 I2 y0 y1 j0 j1
  go_wp2
  generalize (w3.alloc (wb top (.slice a3 xs.length c3))).alloc (.cells #[] 4) = w4 at *
  generalize hN : l.length = N at *
  go_loopw [7, 8] (fun fv i wr => ∃ (k : Nat) (af : Option Addr) (cf : Nat) (an : Option Addr) (cn : Nat), fv = .slice af k cf ∧ i = .int .i64 (k : Int) ∧ k ≤ N ∧ Hid (Ints (w.heap.size + 1 + 1) (.slice an (allX top xs (l.take k)).length cn) (allX top xs (l.take k)) wr) ∧ (∀ j, (Value.slice an (allX top xs (l.take k)).length cn).ownBlock = some j → j ≠ w3.heap.size) ∧ Hid (Bools (w3.heap.size + 1) (.slice af k cf) (allB top xs (l.take k)) wr) ∧ wr.heap[w.heap.size + 1]? = some (wb 0 (.slice none 0 0)) ∧ wr.heap[w3.heap.size]? = some (wb (allT top xs (l.take k)) (.slice an (allX top xs (l.take k)).length cn)) ∧ Below w.heap.size w wr ∧ w3.heap.size + 1 ≤ wr.heap.size) (fun _ i _ => N - (intOf i).toNat)
  case atStart => exact ⟨0, some ⟨w3.heap.size + 1, 0, none⟩, 0, a3, c3, rfl, rfl, Nat.zero_le _, (K4.out.mono (by omega)), (fun j e => by have := (hk3 _ e).2; omega), E4.out, s4, u3, hB4, by omega⟩
  case round =>
    obtain ⟨k, af, cf, an, cn, rfl, rfl, hkN, HX, hxn, HBo, r1, r3, hB, hsz⟩ := hrel
    clear s4 u3 hB4 K4 E4 hk3
    have HWk := hidOf (WinOk.alls (l.take k) HW.out)
    have hlk : (allB top xs (l.take k)).length = k := by rw [allB_len, List.length_take]; omega
    have hltB : ∀ j, (Value.slice af k cf).ownBlock = some j → j < wr.heap.size := fun j e => (HBo.out.lt j e).2
    have hneB : ∀ j, (Value.slice af k cf).ownBlock = some j → w3.heap.size + 1 ≤ j := fun j e => (HBo.out.lt j e).1
    obtain ⟨⟨q0, q1⟩, f0, f1⟩ := box2 r3
    by_cases hlt : k < N
    · obtain ⟨g, ha, hg, hseg⟩ : ∃ g, al = some ⟨g, 0, none⟩ ∧ g < w.heap.size ∧ ISeg g 0 l w := by
        rcases HRL.out with e | e
        · rw [e] at hN; simp at hN; omega
        · exact e
      subst ha
      have a1 := hseg k (by omega)
      simp only [Nat.zero_add] at a1
      have e1 := (hB.cell (p := ⟨g, k, none⟩) hg).trans a1
      have HTk := hidOf (show l.take (k + 1) = l.take k ++ [l[k]] from List.take_succ_eq_append_getElem (by omega))
      clear hseg a1
      obtain ⟨n, hn⟩ : ∃ n, l[k] = n := ⟨_, rfl⟩
      rw [hn] at e1 HTk
      have HN1 := hidOf (show accT (allT top xs (l.take k)) (allX top xs (l.take k)) n = allT top xs (l.take (k + 1)) by rw [HTk.out, allT_snoc])
      have HN2 := hidOf (show accX (allT top xs (l.take k)) (allX top xs (l.take k)) n = allX top xs (l.take (k + 1)) by rw [HTk.out, allX_snoc])
      have HN3 := hidOf (show allB top xs (l.take (k + 1)) = allB top xs (l.take k) ++ [accB (allT top xs (l.take k)) (allX top xs (l.take k)) n] by rw [HTk.out, allB_snoc])
      have hcon : ∀ W5, Ints (w.heap.size + 1 + 1) (.slice an (allX top xs (l.take k)).length cn) (allX top xs (l.take k)) W5 → Calls Try.prog 44 #[wv (allT top xs (l.take k)) (.slice an (allX top xs (l.take k)).length cn), .int .i64 n] W5 fun e w' => ∃ a5 c5, e = .returned (.tuple #[wv (allT top xs (l.take (k + 1))) (.slice a5 (allX top xs (l.take (k + 1))).length c5), .bool (accB (allT top xs (l.take k)) (allX top xs (l.take k)) n)]) ∧ Ints W5.heap.size (.slice a5 (allX top xs (l.take (k + 1))).length c5) (allX top xs (l.take (k + 1))) w' ∧ Below W5.heap.size W5 w' := by
        intro W5 hX5
        have := l6Accepted_any (allT top xs (l.take k)) n hX5 HWk.out
        rw [HN1.out, HN2.out] at this
        refine this.mono ?_
        rintro e w' ⟨v', rfl, hk', hb'⟩
        obtain ⟨a5, c5, hv5, _, _⟩ := hk'.row
        subst hv5
        exact ⟨a5, c5, rfl, hk', hb'⟩
      have HCon := hidOf hcon
      clear hcon HN1 HN2 HTk hn
      generalize hT1 : allT top xs (l.take (k + 1)) = T1 at *
      generalize hX1 : allX top xs (l.take (k + 1)) = X1 at *
      generalize accB (allT top xs (l.take k)) (allX top xs (l.take k)) n = fr at *
      generalize allT top xs (l.take k) = T0 at *
      generalize hX0 : allX top xs (l.take k) = X0 at *
      generalize hLb : allB top xs (l.take k) = Lb at *
      have x0 := cell_since q0 (one_below wr (wb 0 (.slice none 0 0)))
      have x1 := cell_since q1 (one_below wr (wb 0 (.slice none 0 0)))
      have x2 := cell_since e1 (one_below wr (wb 0 (.slice none 0 0)))
      have ra1 : (wr.alloc (wb 0 (.slice none 0 0))).heap[w.heap.size + 1]? = some (wb 0 (.slice none 0 0)) := by rw [Below.heap_alloc _ _ _ (by omega)]; exact r1
      have ra3 : (wr.alloc (wb 0 (.slice none 0 0))).heap[w3.heap.size]? = some (wb T0 (.slice an X0.length cn)) := by rw [Below.heap_alloc _ _ _ (by omega)]; exact r3
      have HBA := hidOf (HBo.out.since (one_below wr (wb 0 (.slice none 0 0))))
      have hBA : Below w.heap.size w (wr.alloc (wb 0 (.slice none 0 0))) := hB.alloc hB.size _
      have hsA : (wr.alloc (wb 0 (.slice none 0 0))).drew.heap.size = wr.heap.size + 1 := by show (wr.alloc (wb 0 (.slice none 0 0))).heap.size = _; simp
      have HRA := hidOf (And.intro ra1 ra3)
      have HBB := hidOf hBA
      have HR := hidOf (And.intro r1 r3)
      have HB0 := hidOf hB
      clear ra1 ra3 hBA r1 r3 hB
      go_wp2
      go_region_with (go_at_call 44; first
        | (refine (HCon.out wr.drew HX.out).mono ?_; rintro e w5 ⟨a5, c5, rfl, k5, b5⟩)
        | (refine (HCon.out (wr.alloc (wb 0 (.slice none 0 0))).drew (show Ints _ _ _ (wr.alloc (wb 0 (.slice none 0 0))) from HX.out.since (one_below _ _))).mono ?_; rintro e w5 ⟨a5, c5, rfl, k5, b5⟩; have o9 := (b5.block wr.heap.size (by show wr.heap.size < (wr.alloc (wb 0 (.slice none 0 0))).heap.size; simp)).trans (show (wr.alloc (wb 0 (.slice none 0 0))).drew.heap[wr.heap.size]? = some (wb 0 (.slice none 0 0)) from heap_alloc_new _ _); obtain ⟨⟨o0, o1⟩, o2, o3⟩ := box2 o9))
      all_goals
        first
          | (have o9' := o9
             have hs5 := b5.size
             rw [hsA] at hs5
             have hk5 := k5.lt
             rw [hsA] at hk5
             have z1 := (b5.block (w.heap.size + 1) (by rw [hsA]; omega)).trans (show (wr.alloc (wb 0 (.slice none 0 0))).drew.heap[w.heap.size + 1]? = _ from HRA.out.1)
             have z3 := (b5.block w3.heap.size (by rw [hsA]; omega)).trans (show (wr.alloc (wb 0 (.slice none 0 0))).drew.heap[w3.heap.size]? = _ from HRA.out.2)
             have hB5 : Below w.heap.size w w5 := (HBB.out.drew).trans (b5.mono (by rw [hsA]; have := HB0.out.size; omega))
             have IB5 := Bools.since (show Bools _ _ _ (wr.alloc (wb 0 (.slice none 0 0))).drew from HBA.out) b5
             have hg9 := (grown_set w5 wr.heap.size 0 (.int .i64 T1)).trans (grown_set _ wr.heap.size 1 (.slice a5 X1.length c5))
             have p9 := box2_set1 (box2_set0 o9 (.int .i64 T1)) (.slice a5 X1.length c5)
             have z1 := blk (k := w.heap.size + 1) hg9 z1 (by omega)
             have z3 := blk (k := w3.heap.size) hg9 z3 (by omega)
             have IXq := hidOf ((k5.mono (show w.heap.size + 1 + 1 ≤ _ by rw [hsA]; omega)).kept hg9 (fun j e e' => by cases e; have := (hk5 _ e').1; omega))
             have IBq := hidOf (IB5.kept hg9 (fun j e e' => by cases e; have := hltB _ e'; omega))
             have hBq : Below w.heap.size w ((w5.setCell ⟨wr.heap.size, 0, none⟩ (.int .i64 T1)).setCell ⟨wr.heap.size, 1, none⟩ (.slice a5 X1.length c5)) := hB5.grown hg9 hB5.size (fun j e => by cases e; have := HB0.out.size; omega)
             have hszq : w3.heap.size + 1 ≤ ((w5.setCell ⟨wr.heap.size, 0, none⟩ (.int .i64 T1)).setCell ⟨wr.heap.size, 1, none⟩ (.slice a5 X1.length c5)).heap.size := by simp; omega
             have hn5 : ∀ j, (Value.slice a5 X1.length c5).ownBlock = some j → j ≠ w3.heap.size := fun j e => by have := (hk5 _ e).1; omega
             have hP9 : w3.heap.size + 1 ≤ wr.heap.size := by omega
             clear o9 o9' o0 o1 o2 o3 hg9 hB5 IB5 hk5 b5 k5 x0 x1 x2 q0 q1 f0 f1 e1
             generalize (w5.setCell ⟨wr.heap.size, 0, none⟩ (.int .i64 T1)).setCell ⟨wr.heap.size, 1, none⟩ (.slice a5 X1.length c5) = wq at *
             skip)
          | (have hs5 := b5.size
             have hk5 := k5.lt
             have hsD : wr.drew.heap.size = wr.heap.size := rfl
             rw [hsD] at hs5 hk5
             have z1 := (b5.block (w.heap.size + 1) (by rw [hsD]; omega)).trans (show wr.drew.heap[w.heap.size + 1]? = _ from HR.out.1)
             have z3 := (b5.block w3.heap.size (by rw [hsD]; omega)).trans (show wr.drew.heap[w3.heap.size]? = _ from HR.out.2)
             have hB5 : Below w.heap.size w w5 := (HB0.out.drew).trans (b5.mono (by rw [hsD]; exact HB0.out.size))
             have IB5 := Bools.since (show Bools _ _ _ wr.drew from HBo.out) b5
             have p9 : (w5.alloc (wb T1 (.slice a5 X1.length c5))).heap[w5.heap.size]? = some (wb T1 (.slice a5 X1.length c5)) := heap_alloc_new _ _
             have z1 : (w5.alloc (wb T1 (.slice a5 X1.length c5))).heap[w.heap.size + 1]? = some (wb 0 (.slice none 0 0)) := (by rw [Below.heap_alloc _ _ _ (by omega)]; exact z1)
             have z3 : (w5.alloc (wb T1 (.slice a5 X1.length c5))).heap[w3.heap.size]? = some (wb T0 (.slice an X0.length cn)) := (by rw [Below.heap_alloc _ _ _ (by omega)]; exact z3)
             have IXq := hidOf ((k5.mono (show w.heap.size + 1 + 1 ≤ _ by rw [hsD]; omega)).since (one_below w5 (wb T1 (.slice a5 X1.length c5))))
             have IBq := hidOf (IB5.since (one_below w5 (wb T1 (.slice a5 X1.length c5))))
             have hBq : Below w.heap.size w (w5.alloc (wb T1 (.slice a5 X1.length c5))) := hB5.alloc hB5.size _
             have hszq : w3.heap.size + 1 ≤ (w5.alloc (wb T1 (.slice a5 X1.length c5))).heap.size := by simp; omega
             have hn5 : ∀ j, (Value.slice a5 X1.length c5).ownBlock = some j → j ≠ w3.heap.size := fun j e => by have := (hk5 _ e).1; omega
             have hP9 : w3.heap.size + 1 ≤ w5.heap.size := by omega
             clear hB5 IB5 hk5 b5 k5 x0 x1 x2 q0 q1 f0 f1 e1
             generalize w5.alloc (wb T1 (.slice a5 X1.length c5)) = wq at *
             skip)
        obtain ⟨⟨t0, t1⟩, t2, t3⟩ := box2 p9
        obtain ⟨⟨v0, v1⟩, v2, v3⟩ := box2 z3
        have hgs := (grown_set wq w3.heap.size 0 (.int .i64 T1)).trans (grown_set _ w3.heap.size 1 (.slice a5 X1.length c5))
        have y1 := blk (k := w.heap.size + 1) hgs z1 (by omega)
        have y3 := box2_set1 (box2_set0 z3 (.int .i64 T1)) (.slice a5 X1.length c5)
        have JX := hidOf (IXq.out.kept hgs (fun j e e' => by cases e; exact hn5 _ e' rfl))
        have JB := hidOf (IBq.out.kept hgs (fun j e e' => by cases e; have := hneB _ e'; omega))
        have hBw : Below w.heap.size w ((wq.setCell ⟨w3.heap.size, 0, none⟩ (.int .i64 T1)).setCell ⟨w3.heap.size, 1, none⟩ (.slice a5 X1.length c5)) := hBq.grown hgs hBq.size (fun j e => by cases e; omega)
        have HC1 : Hid (∀ j u, [Value.bool fr][j]? = some u → (((wq.setCell ⟨w3.heap.size, 0, none⟩ (.int .i64 T1)).setCell ⟨w3.heap.size, 1, none⟩ (.slice a5 X1.length c5)).alloc (.cells #[.bool fr] 4)).cell? ((⟨wq.heap.size, 0, none⟩ : Addr).add j) = some u) := by
          have hc := cell_one1 ((wq.setCell ⟨w3.heap.size, 0, none⟩ (.int .i64 T1)).setCell ⟨w3.heap.size, 1, none⟩ (.slice a5 X1.length c5)) 4 (.bool fr)
          rw [show ((wq.setCell ⟨w3.heap.size, 0, none⟩ (.int .i64 T1)).setCell ⟨w3.heap.size, 1, none⟩ (.slice a5 X1.length c5)).heap.size = wq.heap.size by simp] at hc
          exact hc
        clear hgs z1 z3 IXq IBq hBq
        go_wp2_with (at_builtin; refine wpList_append_own _ rfl _ _ 36 rfl (w3.heap.size + 1) 4 i0 (.bool false) 1 1 Try.underlying36 hi hz0 hz1 hz2 rfl (by decide) _ _ _ rfl (bools_lit JB.out hlk _) ⟨wq.heap.size, 0, none⟩ 1 1 [.bool fr] rfl rfl HC1.out (by simp [Value.oneCell']) (by unfold maxLen; omega) (by omega) (by simp <;> omega) ?_; intro v' w8 hown' hgrow _; obtain ⟨a8, c8, hv', hI'⟩ := bools_row (xs := Lb ++ [fr]) hown' (by simp); have hL8 : (Lb ++ [fr]).length = k + 1 := (by simp [hlk]); rw [hL8] at hv' hI'; subst hv'; have s8 := blkA hgrow y1 (fun e => by have := hneB _ e; omega); have u8 := blkA hgrow y3 (fun e => by have := hneB _ e; omega); have hs8 := hgrow.size; simp only [World.size_alloc] at hs8; have JX8 := hidOf ((JX.out.since (one_below _ _)).kept hgrow (fun j e e' => own_ne JX.out JB.out _ e' e)); have HB8 : Hid (Below w.heap.size w w8) := (hBw.alloc hBw.size _).grown hgrow (by simp <;> omega) (fun k e => by have := hneB _ e; omega); have HI8 := hidOf hI'; clear hown' hI' hgrow y1 y3 hBw)
        go_roundw
        case rel => exact ⟨k + 1, a8, c8, a5, c5, by go_num, by go_num, by omega, (by show Ints _ _ _ _; rw [hX1]; exact JX8.out), (by rw [hX1]; exact hn5), (by show Bools _ _ _ _; rw [HN3.out]; exact HI8.out), s8, (by rw [hX1, hT1]; exact u8), HB8.out, by simp at hs8; omega⟩
        case measure => simp [intOf] <;> omega
    · obtain rfl : k = N := by omega
      have htk : l.take k = l := List.take_of_length_le (by omega)
      rw [htk] at HX hxn HBo r3 q1 q0
      have hlk' : (allB top xs l).length = k := by rw [allB_len]; omega
      obtain ⟨⟨y0, y1⟩, j0, j1⟩ := box2 r1
      have hltX := HX.out.lt
      obtain ⟨g1, g2, g3⟩ := HA.out
      have HF : Hid (((wr.setCell ⟨w.heap.size + 1, 0, none⟩ (.int .i64 (allT top xs l))).setCell ⟨w.heap.size + 1, 1, none⟩ (.slice an (allX top xs l).length cn)).heap[w.heap.size + 1]? = some (wb (allT top xs l) (.slice an (allX top xs l).length cn))) := box2_set1 (box2_set0 r1 _) _
      have HB' : Hid (Below w.heap.size w ((wr.setCell ⟨w.heap.size + 1, 0, none⟩ (.int .i64 (allT top xs l))).setCell ⟨w.heap.size + 1, 1, none⟩ (.slice an (allX top xs l).length cn))) := (hB.setCell (by simp) _).setCell (by simp) _
      have HK : Hid (Ints w.heap.size (.slice an (allX top xs l).length cn) (allX top xs l) ((wr.setCell ⟨w.heap.size + 1, 0, none⟩ (.int .i64 (allT top xs l))).setCell ⟨w.heap.size + 1, 1, none⟩ (.slice an (allX top xs l).length cn))) :=
        ((HX.out.mono (by omega)).kept (grown_set _ _ _ _) (fun k e e' => by cases e; have := (hltX _ e').1; omega)).kept (grown_set _ _ _ _) (fun k e e' => by cases e; have := (hltX _ e').1; omega)
      have HQ : Hid (Bools w.heap.size (.slice af k cf) (allB top xs l) ((wr.setCell ⟨w.heap.size + 1, 0, none⟩ (.int .i64 (allT top xs l))).setCell ⟨w.heap.size + 1, 1, none⟩ (.slice an (allX top xs l).length cn))) :=
        ((HBo.out.mono (by omega)).kept (grown_set _ _ _ _) (fun k e e' => by cases e; have := hneB _ e'; omega)).kept (grown_set _ _ _ _) (fun k e e' => by cases e; have := hneB _ e'; omega)
      clear r1 r3 hltX htk
      go_wp2
      have bF := HF.out
      have gB := HB'.out
      have gK := HK.out
      have gQ := HQ.out
      clear HF HB' HK HQ HA
      generalize (wr.setCell ⟨w.heap.size + 1, 0, none⟩ (.int .i64 (allT top xs l))).setCell ⟨w.heap.size + 1, 1, none⟩ (.slice an (allX top xs l).length cn) = WF at bF gB gK gQ ⊢
      obtain ⟨⟨z0, z1⟩, _, _⟩ := box2 bF
      rw [g1, g2, g3, hlk']
      exact bodyPost_ret (v := .tuple #[wv (allT top xs l) (.slice an (allX top xs l).length cn), .slice af k cf]) (by simp [results, Try.results19, go_sem, z0, z1]) rfl ⟨an, cn, af, cf, rfl, gK, gQ, gB⟩
end Go.Proofs.Ythfgiabkafdbdaa.Wn
