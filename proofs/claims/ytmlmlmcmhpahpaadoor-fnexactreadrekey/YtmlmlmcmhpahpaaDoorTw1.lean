
/- Keys and wraps off the program's reader. -/
import Derived.Test.YtmlmlmcmhpahpaaDoorTr3
import Derived.Test.YtmlmlmcmhpahpaaDoorWraps2
import Derived.Deep.RegionWith
namespace Go.Proofs.YtmlmlmcmhpahpaaDoor
open Go.RowKit Go.Shelf
namespace Tx

def pKey (l : List UInt8) : Option ((Int × Int) × List UInt8) := (pNum l).bind fun x => (pNeed [46] x.2).bind fun r => (pNum r).map fun y => ((x.1, y.1), y.2)
theorem pNum_len {l r : List UInt8} {m : Int} (h : pNum l = some (m, r)) : r.length ≤ l.length := by
  unfold pNum at h
  by_cases hk : numOk (l.takeWhile isD) = true
  · rw [if_pos hk] at h
    injection h with h
    injection h with h1 h2
    rw [← h2]
    exact (List.dropWhile_sublist _).length_le
  · rw [if_neg hk] at h; cases h
theorem pNeed_len {q l r : List UInt8} (h : pNeed q l = some r) : r.length ≤ l.length := by
  unfold pNeed at h
  by_cases hk : Lib.hasPrefix l q = true
  · rw [if_pos hk] at h
    injection h with h
    rw [← h]; simp
  · rw [if_neg hk] at h; cases h
theorem pKey_len {l r : List UInt8} {k : Int × Int} (h : pKey l = some (k, r)) : r.length ≤ l.length := by
  unfold pKey at h
  cases h1 : pNum l with
  | none => simp [h1] at h
  | some x =>
    cases h2 : pNeed [46] x.2 with
    | none => simp [h1, h2] at h
    | some r2 =>
      cases h3 : pNum r2 with
      | none => simp [h1, h2, h3] at h
      | some y =>
        simp [h1, h2, h3] at h
        have a := pNum_len (m := x.1) (r := x.2) h1
        have b := pNeed_len h2
        have c := pNum_len (m := y.1) (r := y.2) h3
        rw [← h.2]; omega

set_option maxRecDepth 100000 in
theorem key_any (b : Nat) (ev : Value) (l : List UInt8) (w : World) (h : Rdr b l w) (hN : NoText b ev w) (hl : l.length ≤ 1048576) :
    Calls Tryd.prog 70 #[rp b] w fun e w' => Ends b ev w ((pKey l).map fun x => (kv x.1.1 x.1.2, x.2)) e w' := by
  have HN := hidT hN
  have hbl := h.lt
  have G0 := hidT (World.grownBy_alloc w (kb 0 0) (some b))
  have R0 : Hid (Rdr b l (w.alloc (kb 0 0))) := h.since (oneB _ _)
  have P0 := hidT (heap_new w (kb 0 0))
  clear h hN
  go_enter Tryd.func70, Tryd.ntmps70
  go_wp2_with fail
  refine (number_any b ev l _ R0.out (HN.out.grown G0.out) hl).mono ?_
  rintro e w1 (⟨v, l1, hv, rfl, R1, g1⟩ | ⟨hv, rfl, g1⟩)
  · obtain ⟨m, hm, rfl⟩ : ∃ m, Hid (pNum l = some (m, l1)) ∧ v = .int .i64 m := by
      cases hn : pNum l with
      | none => simp [hn] at hv
      | some x =>
        simp [hn] at hv
        obtain ⟨e1, e2⟩ := hv
        exact ⟨x.1, hidT (by rw [← e2]), e1.symm⟩
    have hl1 := Nat.le_trans (pNum_len hm.out) hl
    have P1 := hidT ((g1.block _ (cell_lt (blk2 P0.out).1) (by simp; omega)).trans P0.out)
    have G1 := hidT (G0.out.trans g1)
    have R1 := hidT R1
    clear g1 hv
    go_wp2_with fail
    refine (need_any b ev l1 [46] w1 R1.out (HN.out.grown G1.out)).mono ?_
    rintro e w2 (⟨v, l2, hv, rfl, R2, g2⟩ | ⟨hv, rfl, g2⟩)
    · obtain ⟨hm2, rfl⟩ : Hid (pNeed [46] l1 = some l2) ∧ v = .tuple #[] := by
        cases hn : pNeed [46] l1 with
        | none => simp [hn] at hv
        | some x =>
          simp [hn] at hv
          obtain ⟨e1, e2⟩ := hv
          exact ⟨hidT (by rw [← e2]), e1.symm⟩
      have hl2 := Nat.le_trans (pNeed_len hm2.out) hl1
      have P2 := hidT ((g2.block _ (cell_lt (blk2 P1.out).1) (by simp; omega)).trans P1.out)
      have G2 := hidT (G1.out.trans g2)
      have R2 := hidT R2
      clear g2 hv
      go_wp2_with fail
      refine (number_any b ev l2 w2 R2.out (HN.out.grown G2.out) hl2).mono ?_
      rintro e w3 (⟨v, l3, hv, rfl, R3, g3⟩ | ⟨hv, rfl, g3⟩)
      · obtain ⟨m3, hm3, rfl⟩ : ∃ m, Hid (pNum l2 = some (m, l3)) ∧ v = .int .i64 m := by
          cases hn : pNum l2 with
          | none => simp [hn] at hv
          | some x =>
            simp [hn] at hv
            obtain ⟨e1, e2⟩ := hv
            exact ⟨x.1, hidT (by rw [← e2]), e1.symm⟩
        have P3 := hidT ((g3.block _ (cell_lt (blk2 P2.out).1) (by simp; omega)).trans P2.out)
        have G3 := hidT (G2.out.trans g3)
        have R3 := hidT R3
        clear g3 hv
        obtain ⟨d0, d1, z0, z1⟩ := blk2 P3.out
        have HT := hidT (set2 (.int .i64 m) (.int .i64 m3) P3.out)
        have G5 := hidT (G3.out.andThen HT.out.2 (fun j e => .inl (by cases e; first | omega | exact Nat.le_refl _)))
        have R5 : Hid (Rdr b l3 _) := (HT.out.2.block b R3.out.lt (by simp; omega)).trans R3.out
        have P5 := hidT HT.out.1
        clear HT
        go_wp2
        generalize ((w3.setCell ⟨w.heap.size, 0, none⟩ (.int .i64 m)).setCell ⟨w.heap.size, 1, none⟩ (.int .i64 m3)) = w5 at G5 R5 P5 ⊢
        obtain ⟨e0, e1, _, _⟩ := blk2 P5.out
        refine bodyPost_ret (v := kv m m3) (by simp [results, Tryd.results70, go_sem, e0, e1]) rfl (.inl ⟨_, l3, ?_, rfl, R5.out, G5.out⟩)
        simp [pKey, hm.out, hm2.out, hm3.out]
      · exact ⟨rfl, .inr ⟨by
          have : pNum l2 = none := by simpa using hv
          simp [pKey, hm.out, hm2.out, this], rfl, G2.out.trans g3⟩⟩
    · exact ⟨rfl, .inr ⟨by
        have : pNeed [46] l1 = none := by simpa using hv
        simp [pKey, hm.out, this], rfl, G1.out.trans g2⟩⟩
  · exact ⟨rfl, .inr ⟨by
      have : pNum l = none := by simpa using hv
      simp [pKey, this], rfl, G0.out.trans g1⟩⟩

theorem key_yes {b : Nat} {ev : Value} {l l' : List UInt8} {w : World} {k m : Int} (h : Rdr b l w) (hN : NoText b ev w) (hl : l.length ≤ 1048576) (hk : pKey l = some ((k, m), l')) :
    Calls Tryd.prog 70 #[rp b] w fun e w' => e = .returned (kv k m) ∧ Rdr b l' w' ∧ w.grownBy w' (some b) := by
  refine (key_any b ev l w h hN hl).mono ?_
  rintro e w' (⟨v, l2, hv, rfl, R, g⟩ | ⟨hv, _⟩)
  · rw [hk] at hv
    simp at hv
    obtain ⟨rfl, rfl⟩ := hv
    exact ⟨rfl, R, g⟩
  · rw [hk] at hv; cases hv
theorem blk4 {w : World} {b : Nat} {x y u v : Value} {t : TypeId} (h : w.heap[b]? = some (.cells #[x, y, u, v] t)) : w.cell? ⟨b, 0, none⟩ = some x ∧ w.cell? ⟨b, 1, none⟩ = some y ∧ w.cell? ⟨b, 2, none⟩ = some u ∧ w.cell? ⟨b, 3, none⟩ = some v ∧
    w.frozen? ⟨b, 0, none⟩ = false ∧ w.frozen? ⟨b, 1, none⟩ = false ∧ w.frozen? ⟨b, 2, none⟩ = false ∧ w.frozen? ⟨b, 3, none⟩ = false := by
  simp [World.cell?, World.frozen?, h]
theorem set4 {w : World} {q : Nat} {x y u v : Value} {t : TypeId} (x' y' u' v' : Value) (h : w.heap[q]? = some (.cells #[x, y, u, v] t)) :
    ((((w.setCell ⟨q, 0, none⟩ x').setCell ⟨q, 1, none⟩ y').setCell ⟨q, 2, none⟩ u').setCell ⟨q, 3, none⟩ v').heap[q]? = some (.cells #[x', y', u', v'] t) ∧ w.grownBy ((((w.setCell ⟨q, 0, none⟩ x').setCell ⟨q, 1, none⟩ y').setCell ⟨q, 2, none⟩ u').setCell ⟨q, 3, none⟩ v') (some q) := by
  have e1 : (w.setCell ⟨q, 0, none⟩ x').heap[q]? = some (.cells #[x', y, u, v] t) := by
    simp only [World.setCell, Array.getElem?_modify, h]
    simp
  have e2 : ((w.setCell ⟨q, 0, none⟩ x').setCell ⟨q, 1, none⟩ y').heap[q]? = some (.cells #[x', y', u, v] t) := by
    generalize w.setCell ⟨q, 0, none⟩ x' = w1 at e1
    simp only [World.setCell, Array.getElem?_modify, e1]
    simp
  have e3 : (((w.setCell ⟨q, 0, none⟩ x').setCell ⟨q, 1, none⟩ y').setCell ⟨q, 2, none⟩ u').heap[q]? = some (.cells #[x', y', u', v] t) := by
    generalize (w.setCell ⟨q, 0, none⟩ x').setCell ⟨q, 1, none⟩ y' = w1 at e2
    simp only [World.setCell, Array.getElem?_modify, e2]
    simp
  refine ⟨?_, ⟨rfl, rfl, rfl, ?_, fun i hi hne => ?_⟩⟩
  · generalize ((w.setCell ⟨q, 0, none⟩ x').setCell ⟨q, 1, none⟩ y').setCell ⟨q, 2, none⟩ u' = w1 at e3
    simp only [World.setCell, Array.getElem?_modify, e3]
    simp
  · simp [World.setCell]
  · have hq : ¬ q = i := fun e => hne (by rw [e])
    simp [World.setCell, Array.getElem?_modify, hq]
def pWrap (l : List UInt8) : Option (W4 × List UInt8) := (pKey l).bind fun x => (pNeed [62] x.2).bind fun r => (pKey r).map fun y => ((x.1.1, x.1.2, y.1.1, y.1.2), y.2)
set_option maxRecDepth 100000 in
theorem wrap_any (b : Nat) (ev : Value) (l : List UInt8) (w : World) (h : Rdr b l w) (hN : NoText b ev w) (hl : l.length ≤ 1048576) :
    Calls Tryd.prog 59 #[rp b] w fun e w' => Ends b ev w ((pWrap l).map fun x => (wv x.1.1 x.1.2.1 x.1.2.2.1 x.1.2.2.2, x.2)) e w' := by
  have HN := hidT hN
  have hbl := h.lt
  have G0 := hidT (World.grownBy_alloc w (wb 0 0 0 0) (some b))
  have R0 : Hid (Rdr b l (w.alloc (wb 0 0 0 0))) := h.since (oneB _ _)
  have P0 := hidT (heap_new w (wb 0 0 0 0))
  clear h hN
  go_enter Tryd.func59, Tryd.ntmps59
  go_wp2_with fail
  refine (key_any b ev l _ R0.out (HN.out.grown G0.out) hl).mono ?_
  rintro e w1 (⟨v, l1, hv, rfl, R1, g1⟩ | ⟨hv, rfl, g1⟩)
  · obtain ⟨k, m, hm, rfl⟩ : ∃ k m, Hid (pKey l = some ((k, m), l1)) ∧ v = kv k m := by
      cases hn : pKey l with
      | none => simp [hn] at hv
      | some x =>
        simp [hn] at hv
        obtain ⟨e1, e2⟩ := hv
        exact ⟨x.1.1, x.1.2, hidT (by rw [← e2]), e1.symm⟩
    have hl1 := Nat.le_trans (pKey_len hm.out) hl
    have P1 := hidT ((g1.block _ ((Array.getElem?_eq_some_iff.1 P0.out).1) (by simp; omega)).trans P0.out)
    have G1 := hidT ((G0.out.trans g1).trans (World.grownBy_alloc w1 (kb k m) (some b)))
    have R1' : Hid (Rdr b l1 (w1.alloc (kb k m))) := R1.since (oneB _ _)
    have lp : w.heap.size < w1.heap.size := (Array.getElem?_eq_some_iff.1 P1.out).1
    have P2 := hidT ((heap_old w1 (kb k m) lp).trans P1.out)
    have Q2 := hidT (heap_new w1 (kb k m))
    have hb1 : b < w1.heap.size := R1.lt
    clear g1 hv R1 P1
    go_wp2_with fail
    generalize w1.alloc (kb k m) = w2 at G1 R1' P2 Q2 ⊢
    refine (need_any b ev l1 [62] w2 R1'.out (HN.out.grown G1.out)).mono ?_
    rintro e w3 (⟨v, l2, hv, rfl, R3, g3⟩ | ⟨hv, rfl, g3⟩)
    · obtain ⟨hm2, rfl⟩ : Hid (pNeed [62] l1 = some l2) ∧ v = .tuple #[] := by
        cases hn : pNeed [62] l1 with
        | none => simp [hn] at hv
        | some x =>
          simp [hn] at hv
          obtain ⟨e1, e2⟩ := hv
          exact ⟨hidT (by rw [← e2]), e1.symm⟩
      have hl2 := Nat.le_trans (pNeed_len hm2.out) hl1
      have P3 := hidT ((g3.block _ ((Array.getElem?_eq_some_iff.1 P2.out).1) (by simp; omega)).trans P2.out)
      have Q3 := hidT ((g3.block _ ((Array.getElem?_eq_some_iff.1 Q2.out).1) (by simp; omega)).trans Q2.out)
      have G3 := hidT (G1.out.trans g3)
      have R3 := hidT R3
      clear g3 hv P2 Q2 R1' G1
      obtain ⟨c0, c1, f0, f1⟩ := blk2 Q3.out
      have R3d : Hid (Rdr b l2 w3.drew) := R3.out
      have N3d : Hid (NoText b ev w3.drew) := (HN.out.grown G3.out).since (Below.refl _ _).drew
      cases hk : pKey l2 with
      | none =>
        have HPN := hidT (show pWrap l = none by simp [pWrap, hm.out, hm2.out, hk])
        have HKN := hidT hk
        clear hk
        go_wp2
        refine wp_region_any (by kernel_rfl) ?_
        try (change wpAny _ _ _ _ _ _ _ (World.drew _))
        refine wpAny_take (i := 1) (v := rp b) rfl (by kernel_rfl) (by kernel_rfl) (by kernel_rfl) (fun _ _ _ h => h) (Or.inl ⟨by rfl, fun w => by go_simp⟩) ?_
        refine wpAny_ready (rs := [0, 2]) (by kernel_rfl) (by simp) ?_
        refine AllReady.cons rfl (fun K hK => ?_) (AllReady.cons rfl (fun K hK => ?_) AllReady.nil)
        · go_simp
          refine hK _ _ ?_
          clear hK K
          refine wpAny_ready (rs := [2]) (by kernel_rfl) (by simp) ?_
          refine AllReady.cons rfl (fun K hK => ?_) AllReady.nil
          go_simp
          refine (key_any b ev l2 _ R3d.out N3d.out hl2).mono ?_
          rintro e w4 (⟨v, l3, hv, _⟩ | ⟨_, rfl, g4⟩)
          · rw [HKN.out] at hv
            cases hv
          · exact ⟨rfl, .inr ⟨by rw [HPN.out]; rfl, rfl, (grown_ext G3.out (Below.refl _ _).drew).trans g4⟩⟩
        · go_simp
          refine (key_any b ev l2 _ R3d.out N3d.out hl2).mono ?_
          rintro e w4 (⟨v, l3, hv, _⟩ | ⟨_, rfl, g4⟩)
          · rw [HKN.out] at hv
            cases hv
          · exact ⟨rfl, .inr ⟨by rw [HPN.out]; rfl, rfl, (grown_ext G3.out (Below.refl _ _).drew).trans g4⟩⟩
      | some y =>
        obtain ⟨⟨k2, m2⟩, l3⟩ := y
        have HPS := hidT (show pWrap l = some ((k, m, k2, m2), l3) by simp [pWrap, hm.out, hm2.out, hk])
        have HK := hidT hk
        clear hk
        have hne1 : some w.heap.size ≠ some b := by simp; omega
        have hne2 : some w1.heap.size ≠ some b := by simp; omega
        obtain ⟨a0, a1, a2, a3, b0, b1, b2, b3⟩ := blk4 P3.out
        go_wp2
        go_region_with (go_at_call 70; refine (key_yes (l := l2) R3d.out N3d.out hl2 HK.out).mono ?_; rintro e w4 ⟨rfl, R4, g4⟩; have c0 := g4.cell (show w3.drew.cell? ⟨w1.heap.size, 0, none⟩ = _ from c0) hne2; have c1 := g4.cell (show w3.drew.cell? ⟨w1.heap.size, 1, none⟩ = _ from c1) hne2; have P4 := hidT ((g4.block _ ((Array.getElem?_eq_some_iff.1 P3.out).1) hne1).trans P3.out); obtain ⟨a0, a1, a2, a3, b0, b1, b2, b3⟩ := blk4 P4.out)
        all_goals
          have HT := hidT (set4 (.int .i64 k) (.int .i64 m) (.int .i64 k2) (.int .i64 m2) P4.out)
          have G5 := hidT (((grown_ext G3.out (Below.refl _ _).drew).trans g4).andThen HT.out.2 (fun j e => .inl (by cases e; first | omega | exact Nat.le_refl _)))
          have R5 : Hid (Rdr b l3 _) := (HT.out.2.block b R4.lt (by simp; omega)).trans R4
          have P5 := hidT HT.out.1
          clear HT g4 R4 P4
          go_wp2
          generalize ((((w4.setCell ⟨w.heap.size, 0, none⟩ (.int .i64 k)).setCell ⟨w.heap.size, 1, none⟩ (.int .i64 m)).setCell ⟨w.heap.size, 2, none⟩ (.int .i64 k2)).setCell ⟨w.heap.size, 3, none⟩ (.int .i64 m2)) = w5 at G5 R5 P5 ⊢
          obtain ⟨e0, e1, e2, e3, _⟩ := blk4 P5.out
          refine bodyPost_ret (v := wv k m k2 m2) (by simp [results, Tryd.results59, go_sem, e0, e1, e2, e3]) rfl (.inl ⟨_, l3, ?_, rfl, R5.out, G5.out⟩)
          rw [HPS.out]
          rfl
    · exact ⟨rfl, .inr ⟨by
        have : pNeed [62] l1 = none := by simpa using hv
        simp [pWrap, hm.out, this], rfl, G1.out.trans g3⟩⟩
  · exact ⟨rfl, .inr ⟨by
      have : pKey l = none := by simpa using hv
      simp [pWrap, this], rfl, G0.out.trans g1⟩⟩
end Tx
end Go.Proofs.YtmlmlmcmhpahpaaDoor
