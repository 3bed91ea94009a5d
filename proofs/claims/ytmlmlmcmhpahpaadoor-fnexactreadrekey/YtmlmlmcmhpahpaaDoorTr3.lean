
/- An op off the program's reader. -/
import Derived.Test.YtmlmlmcmhpahpaaDoorTr2
namespace Go.Proofs.YtmlmlmcmhpahpaaDoor
open Go.RowKit Go.Shelf
namespace Tx

abbrev sJoin : List UInt8 := [106, 111, 105, 110, 32]
abbrev sLeave : List UInt8 := [108, 101, 97, 118, 101, 32]
abbrev sRefresh : List UInt8 := [114, 101, 102, 114, 101, 115, 104]
/-- A number behind a word is the op's member. -/
def pMem (k : Int) (l : List UInt8) : Option ((Int × Int) × List UInt8) := (pNum l).bind fun x => if formB k x.1 = true then some ((k, x.1), x.2) else none
def pOp (l : List UInt8) : Option ((Int × Int) × List UInt8) :=
  if Lib.hasPrefix l sJoin = true then pMem 1 (l.drop 5) else if Lib.hasPrefix l sLeave = true then pMem 2 (l.drop 6) else (pNeed sRefresh l).map fun r => ((3, 0), r)

/-- The package's error errForm holds an error, and its place is not the reader's. -/
def FormX (b : Nat) (w : World) : Prop := HasForm w ∧ b ≠ 0
theorem FormX.grown {b : Nat} {w w' : World} (h : FormX b w) (hg : w.grownBy w' (some b)) : FormX b w' := by
  obtain ⟨⟨t, v, h⟩, hb⟩ := h
  exact ⟨⟨t, v, hg.cell h (by simpa using fun e => hb e.symm)⟩, hb⟩
theorem FormX.since {b : Nat} {w w' : World} (h : FormX b w) (hb : Below w.heap.size w w') : FormX b w' := ⟨h.1.since hb, h.2⟩

theorem blk2 {w : World} {b : Nat} {x y : Value} {t : TypeId} (h : w.heap[b]? = some (.cells #[x, y] t)) : w.cell? ⟨b, 0, none⟩ = some x ∧ w.cell? ⟨b, 1, none⟩ = some y ∧ w.frozen? ⟨b, 0, none⟩ = false ∧ w.frozen? ⟨b, 1, none⟩ = false := by
  simp [World.cell?, World.frozen?, h]
theorem grown_ext {a b c : World} {r : Option Nat} (h : a.grownBy b r) (hb : Below b.heap.size b c) : a.grownBy c r := h.trans ⟨hb.os, hb.tape, hb.output, hb.size, fun i hi _ => hb.block i hi⟩
theorem below_grown {w w' : World} (hb : Below w.heap.size w w') (r : Option Nat) : w.grownBy w' r := grown_ext (World.grownBy.refl _ _) hb

theorem heap_new (w : World) (o : Obj) : (w.alloc o).heap[w.heap.size]? = some o := by
  show (w.heap.push o)[w.heap.size]? = some o
  simp
theorem heap_old (w : World) (o : Obj) {i : Nat} (h : i < w.heap.size) : (w.alloc o).heap[i]? = w.heap[i]? := by
  show (w.heap.push o)[i]? = _
  simp [Array.getElem?_push, Nat.ne_of_lt h]
theorem set2 {w : World} {q : Nat} {x y : Value} {t : TypeId} (x' y' : Value) (h : w.heap[q]? = some (.cells #[x, y] t)) :
    ((w.setCell ⟨q, 0, none⟩ x').setCell ⟨q, 1, none⟩ y').heap[q]? = some (.cells #[x', y'] t) ∧ w.grownBy ((w.setCell ⟨q, 0, none⟩ x').setCell ⟨q, 1, none⟩ y') (some q) := by
  have e1 : (w.setCell ⟨q, 0, none⟩ x').heap[q]? = some (.cells #[x', y] t) := by
    simp only [World.setCell, Array.getElem?_modify, h]
    simp
  refine ⟨?_, ⟨rfl, rfl, rfl, ?_, fun i hi hne => ?_⟩⟩
  · generalize w.setCell ⟨q, 0, none⟩ x' = w1 at e1
    simp only [World.setCell, Array.getElem?_modify, e1]
    simp
  · simp [World.setCell]
  · have hq : ¬ q = i := fun e => hne (by rw [e])
    simp [World.setCell, Array.getElem?_modify, hq]
set_option maxRecDepth 100000 in
theorem op_any (b : Nat) (ev : Value) (l : List UInt8) (w : World) (h : Rdr b l w) (hN : NoText b ev w) (hF : FormX b w) (hl : l.length ≤ 1048576) :
    Calls Tryd.prog 29 #[rp b] w fun e w' => Ends b ev w ((pOp l).map fun x => (kv x.1.1 x.1.2, x.2)) e w' := by
  have HR := hidT h
  have HN := hidT hN
  have HF := hidT hF
  have hbl := h.lt
  have G0 := hidT (((World.grownBy.refl w (some b)).trans (World.grownBy_alloc w (opb 0 0) (some b))).trans (World.grownBy_alloc _ (opb 0 0) (some b)))
  have R0 : Hid (Rdr b l ((w.alloc (opb 0 0)).alloc (opb 0 0))) := (h.since (oneB _ _)).since (oneB _ _)
  have P0 := hidT (show ((w.alloc (opb 0 0)).alloc (opb 0 0)).heap[w.heap.size]? = some (opb 0 0) from (heap_old _ _ (by simp)).trans (heap_new _ _))
  have Q0 := hidT (show ((w.alloc (opb 0 0)).alloc (opb 0 0)).heap[w.heap.size + 1]? = some (opb 0 0) by have := heap_new (w.alloc (opb 0 0)) (opb 0 0); rwa [World.size_alloc] at this)
  clear h hN hF
  go_enter Tryd.func29, Tryd.ntmps29
  go_wp2_with fail
  refine (takes_any b l sJoin _ R0.out).mono ?_
  rintro e w1 ⟨rfl, hw1⟩
  cases hj : Lib.hasPrefix l sJoin with
  | true =>
    rw [trim_is hj] at hw1
    have G1 := hidT (show w.grownBy w1 (some b) by rw [hw1]; exact G0.out.trans (setBy _ _))
    have R1 := hidT (show Rdr b (l.drop 5) w1 by rw [hw1]; exact R0.out.set)
    have P1 := hidT (show w1.heap[w.heap.size]? = some (opb 0 0) by rw [hw1, (setBy (b := b) _ _).block _ (cell_lt (blk2 P0.out).1) (by simp; omega)]; exact P0.out)
    have Q1 := hidT (show w1.heap[w.heap.size + 1]? = some (opb 0 0) by rw [hw1, (setBy (b := b) _ _).block _ (cell_lt (blk2 Q0.out).1) (by simp; omega)]; exact Q0.out)
    clear hw1
    go_wp2_with fail
    refine (number_any b ev _ w1 R1.out (HN.out.grown G1.out) (by simp; omega)).mono ?_
    rintro e w2 (⟨v, l', hv, rfl, R2, g2⟩ | ⟨hv, rfl, g2⟩)
    · obtain ⟨m, hm, rfl⟩ : ∃ m, Hid (pNum (l.drop 5) = some (m, l')) ∧ v = .int .i64 m := by
        cases hn : pNum (l.drop 5) with
        | none => simp [hn] at hv
        | some x =>
          simp [hn] at hv
          obtain ⟨e1, e2⟩ := hv
          exact ⟨x.1, hidT (by rw [← e2]), e1.symm⟩
      have Q2 := hidT ((g2.block _ (cell_lt (blk2 Q1.out).1) (by simp; omega)).trans Q1.out)
      have P2 := hidT ((g2.block _ (cell_lt (blk2 P1.out).1) (by simp; omega)).trans P1.out)
      have G2 := hidT (G1.out.trans g2)
      have R2 := hidT R2
      obtain ⟨c0, c1, f0, f1⟩ := blk2 Q2.out
      clear g2 hv
      go_wp2_with fail
      have HS := hidT (set2 (.int .i64 1) (.int .i64 m) Q2.out)
      have G3 := hidT (G2.out.andThen HS.out.2 (fun j e => .inl (by cases e; first | omega | exact Nat.le_refl _)))
      have P3 := hidT ((HS.out.2.block _ (cell_lt (blk2 P2.out).1) (by simp)).trans P2.out)
      have R3 : Hid (Rdr b l' _) := (HS.out.2.block b R2.out.lt (by simp; omega)).trans R2.out
      have Q3 := hidT HS.out.1
      clear HS c0 c1 f0 f1
      generalize ((w2.setCell ⟨w.heap.size + 1, 0, none⟩ (.int .i64 1)).setCell ⟨w.heap.size + 1, 1, none⟩ (.int .i64 m)) = w3 at G3 P3 R3 Q3 ⊢
      refine (opOk_any 1 m w3 (HF.out.grown G3.out).1).mono ?_
      rintro e w4 ⟨rfl, hb4⟩
      have G4 := hidT (grown_ext G3.out hb4)
      have P4 := hidT ((hb4.block _ (cell_lt (blk2 P3.out).1)).trans P3.out)
      have Q4 := hidT ((hb4.block _ (cell_lt (blk2 Q3.out).1)).trans Q3.out)
      have R4 := hidT (R3.out.since hb4)
      obtain ⟨c0, c1, f0, f1⟩ := blk2 Q4.out
      obtain ⟨d0, d1, z0, z1⟩ := blk2 P4.out
      clear hb4
      cases hf : formB 1 m with
      | true =>
        have HT := hidT (set2 (.int .i64 1) (.int .i64 m) P4.out)
        have G5 := hidT (G4.out.andThen HT.out.2 (fun j e => .inl (by cases e; first | omega | exact Nat.le_refl _)))
        have R5 : Hid (Rdr b l' _) := (HT.out.2.block b R4.out.lt (by simp; omega)).trans R4.out
        have P5 := hidT HT.out.1
        clear HT
        go_wp2
        generalize ((w4.setCell ⟨w.heap.size, 0, none⟩ (.int .i64 1)).setCell ⟨w.heap.size, 1, none⟩ (.int .i64 m)) = w5 at G5 R5 P5 ⊢
        obtain ⟨e0, e1, _, _⟩ := blk2 P5.out
        refine bodyPost_ret (v := kv 1 m) (by simp [results, Tryd.results29, go_sem, e0, e1]) rfl (.inl ⟨_, l', ?_, rfl, R5.out, G5.out⟩)
        simp [pOp, hj, pMem, hm.out, hf]
      | false =>
        go_wp2_with (go_at_call 47; refine (giveUp_any b ev _ (HN.out.grown G4.out)).mono ?_; rintro e w' ⟨rfl, rfl⟩)
        exact ⟨rfl, .inr ⟨by simp [pOp, hj, pMem, hm.out, hf], rfl, G4.out⟩⟩
    · exact ⟨rfl, .inr ⟨by
        have : pNum (l.drop 5) = none := by simpa using hv
        simp [pOp, hj, pMem, this], rfl, G1.out.trans g2⟩⟩
  | false =>
    rw [trim_not hj] at hw1
    have GA := hidT (show w.grownBy w1 (some b) by rw [hw1]; exact G0.out.trans (setBy _ _))
    have RA := hidT (show Rdr b l w1 by rw [hw1]; exact R0.out.set)
    have PA := hidT (show w1.heap[w.heap.size]? = some (opb 0 0) by rw [hw1, (setBy (b := b) _ _).block _ (cell_lt (blk2 P0.out).1) (by simp; omega)]; exact P0.out)
    have QA := hidT (show w1.heap[w.heap.size + 1]? = some (opb 0 0) by rw [hw1, (setBy (b := b) _ _).block _ (cell_lt (blk2 Q0.out).1) (by simp; omega)]; exact Q0.out)
    clear hw1
    go_wp2_with fail
    refine (takes_any b l sLeave _ RA.out).mono ?_
    rintro e w1 ⟨rfl, hw1⟩
    cases hv0 : Lib.hasPrefix l sLeave with
    | true =>
      rw [trim_is hv0] at hw1
      have G1 := hidT (show w.grownBy w1 (some b) by rw [hw1]; exact GA.out.trans (setBy _ _))
      have R1 := hidT (show Rdr b (l.drop 6) w1 by rw [hw1]; exact RA.out.set)
      have P1 := hidT (show w1.heap[w.heap.size]? = some (opb 0 0) by rw [hw1, (setBy (b := b) _ _).block _ (cell_lt (blk2 PA.out).1) (by simp; omega)]; exact PA.out)
      have Q1 := hidT (show w1.heap[w.heap.size + 1]? = some (opb 0 0) by rw [hw1, (setBy (b := b) _ _).block _ (cell_lt (blk2 QA.out).1) (by simp; omega)]; exact QA.out)
      clear hw1
      go_wp2_with fail
      refine (number_any b ev _ w1 R1.out (HN.out.grown G1.out) (by simp; omega)).mono ?_
      rintro e w2 (⟨v, l', hv, rfl, R2, g2⟩ | ⟨hv, rfl, g2⟩)
      · obtain ⟨m, hm, rfl⟩ : ∃ m, Hid (pNum (l.drop 6) = some (m, l')) ∧ v = .int .i64 m := by
          cases hn : pNum (l.drop 6) with
          | none => simp [hn] at hv
          | some x =>
            simp [hn] at hv
            obtain ⟨e1, e2⟩ := hv
            exact ⟨x.1, hidT (by rw [← e2]), e1.symm⟩
        have Q2 := hidT ((g2.block _ (cell_lt (blk2 Q1.out).1) (by simp; omega)).trans Q1.out)
        have P2 := hidT ((g2.block _ (cell_lt (blk2 P1.out).1) (by simp; omega)).trans P1.out)
        have G2 := hidT (G1.out.trans g2)
        have R2 := hidT R2
        obtain ⟨c0, c1, f0, f1⟩ := blk2 Q2.out
        clear g2 hv
        go_wp2_with fail
        have HS := hidT (set2 (.int .i64 2) (.int .i64 m) Q2.out)
        have G3 := hidT (G2.out.andThen HS.out.2 (fun j e => .inl (by cases e; first | omega | exact Nat.le_refl _)))
        have P3 := hidT ((HS.out.2.block _ (cell_lt (blk2 P2.out).1) (by simp)).trans P2.out)
        have R3 : Hid (Rdr b l' _) := (HS.out.2.block b R2.out.lt (by simp; omega)).trans R2.out
        have Q3 := hidT HS.out.1
        clear HS c0 c1 f0 f1
        generalize ((w2.setCell ⟨w.heap.size + 1, 0, none⟩ (.int .i64 2)).setCell ⟨w.heap.size + 1, 1, none⟩ (.int .i64 m)) = w3 at G3 P3 R3 Q3 ⊢
        refine (opOk_any 2 m w3 (HF.out.grown G3.out).1).mono ?_
        rintro e w4 ⟨rfl, hb4⟩
        have G4 := hidT (grown_ext G3.out hb4)
        have P4 := hidT ((hb4.block _ (cell_lt (blk2 P3.out).1)).trans P3.out)
        have Q4 := hidT ((hb4.block _ (cell_lt (blk2 Q3.out).1)).trans Q3.out)
        have R4 := hidT (R3.out.since hb4)
        obtain ⟨c0, c1, f0, f1⟩ := blk2 Q4.out
        obtain ⟨d0, d1, z0, z1⟩ := blk2 P4.out
        clear hb4
        cases hf : formB 2 m with
        | true =>
          have HT := hidT (set2 (.int .i64 2) (.int .i64 m) P4.out)
          have G5 := hidT (G4.out.andThen HT.out.2 (fun j e => .inl (by cases e; first | omega | exact Nat.le_refl _)))
          have R5 : Hid (Rdr b l' _) := (HT.out.2.block b R4.out.lt (by simp; omega)).trans R4.out
          have P5 := hidT HT.out.1
          clear HT
          go_wp2
          generalize ((w4.setCell ⟨w.heap.size, 0, none⟩ (.int .i64 2)).setCell ⟨w.heap.size, 1, none⟩ (.int .i64 m)) = w5 at G5 R5 P5 ⊢
          obtain ⟨e0, e1, _, _⟩ := blk2 P5.out
          refine bodyPost_ret (v := kv 2 m) (by simp [results, Tryd.results29, go_sem, e0, e1]) rfl (.inl ⟨_, l', ?_, rfl, R5.out, G5.out⟩)
          simp [pOp, hj, hv0, pMem, hm.out, hf]
        | false =>
          go_wp2_with (go_at_call 47; refine (giveUp_any b ev _ (HN.out.grown G4.out)).mono ?_; rintro e w' ⟨rfl, rfl⟩)
          exact ⟨rfl, .inr ⟨by simp [pOp, hj, hv0, pMem, hm.out, hf], rfl, G4.out⟩⟩
      · exact ⟨rfl, .inr ⟨by
          have : pNum (l.drop 6) = none := by simpa using hv
          simp [pOp, hj, hv0, pMem, this], rfl, G1.out.trans g2⟩⟩
    | false =>
      rw [trim_not hv0] at hw1
      have G1 := hidT (show w.grownBy w1 (some b) by rw [hw1]; exact GA.out.trans (setBy _ _))
      have R1 := hidT (show Rdr b l w1 by rw [hw1]; exact RA.out.set)
      have P1 := hidT (show w1.heap[w.heap.size]? = some (opb 0 0) by rw [hw1, (setBy (b := b) _ _).block _ (cell_lt (blk2 PA.out).1) (by simp; omega)]; exact PA.out)
      have Q1 := hidT (show w1.heap[w.heap.size + 1]? = some (opb 0 0) by rw [hw1, (setBy (b := b) _ _).block _ (cell_lt (blk2 QA.out).1) (by simp; omega)]; exact QA.out)
      clear hw1
      go_wp2_with fail
      refine (need_any b ev l sRefresh w1 R1.out (HN.out.grown G1.out)).mono ?_
      rintro e w2 (⟨v, l', hv, rfl, R2, g2⟩ | ⟨hv, rfl, g2⟩)
      · obtain ⟨hm, rfl⟩ : Hid (pNeed sRefresh l = some l') ∧ v = .tuple #[] := by
          cases hn : pNeed sRefresh l with
          | none => simp [hn] at hv
          | some x =>
            simp [hn] at hv
            obtain ⟨e1, e2⟩ := hv
            exact ⟨hidT (by rw [← e2]), e1.symm⟩
        have Q2 := hidT ((g2.block _ (cell_lt (blk2 Q1.out).1) (by simp; omega)).trans Q1.out)
        have P2 := hidT ((g2.block _ (cell_lt (blk2 P1.out).1) (by simp; omega)).trans P1.out)
        have G2 := hidT (G1.out.trans g2)
        have R2 := hidT R2
        obtain ⟨c0, c1, f0, f1⟩ := blk2 Q2.out
        clear g2 hv
        go_wp2_with fail
        have HS := hidT (set2 (.int .i64 3) (.int .i64 0) Q2.out)
        have G3 := hidT (G2.out.andThen HS.out.2 (fun j e => .inl (by cases e; first | omega | exact Nat.le_refl _)))
        have P3 := hidT ((HS.out.2.block _ (cell_lt (blk2 P2.out).1) (by simp)).trans P2.out)
        have R3 : Hid (Rdr b l' _) := (HS.out.2.block b R2.out.lt (by simp; omega)).trans R2.out
        have Q3 := hidT HS.out.1
        clear HS c0 c1 f0 f1
        generalize ((w2.setCell ⟨w.heap.size + 1, 0, none⟩ (.int .i64 3)).setCell ⟨w.heap.size + 1, 1, none⟩ (.int .i64 0)) = w3 at G3 P3 R3 Q3 ⊢
        refine (opOk_any 3 0 w3 (HF.out.grown G3.out).1).mono ?_
        rintro e w4 ⟨rfl, hb4⟩
        have G4 := hidT (grown_ext G3.out hb4)
        have P4 := hidT ((hb4.block _ (cell_lt (blk2 P3.out).1)).trans P3.out)
        have Q4 := hidT ((hb4.block _ (cell_lt (blk2 Q3.out).1)).trans Q3.out)
        have R4 := hidT (R3.out.since hb4)
        obtain ⟨c0, c1, f0, f1⟩ := blk2 Q4.out
        obtain ⟨d0, d1, z0, z1⟩ := blk2 P4.out
        clear hb4
        cases hf : formB 3 0 with
        | true =>
          have HT := hidT (set2 (.int .i64 3) (.int .i64 0) P4.out)
          have G5 := hidT (G4.out.andThen HT.out.2 (fun j e => .inl (by cases e; first | omega | exact Nat.le_refl _)))
          have R5 : Hid (Rdr b l' _) := (HT.out.2.block b R4.out.lt (by simp; omega)).trans R4.out
          have P5 := hidT HT.out.1
          clear HT
          go_wp2
          generalize ((w4.setCell ⟨w.heap.size, 0, none⟩ (.int .i64 3)).setCell ⟨w.heap.size, 1, none⟩ (.int .i64 0)) = w5 at G5 R5 P5 ⊢
          obtain ⟨e0, e1, _, _⟩ := blk2 P5.out
          refine bodyPost_ret (v := kv 3 0) (by simp [results, Tryd.results29, go_sem, e0, e1]) rfl (.inl ⟨_, l', ?_, rfl, R5.out, G5.out⟩)
          simp [pOp, hj, hv0, hm.out]
        | false =>
          go_wp2_with (go_at_call 47; refine (giveUp_any b ev _ (HN.out.grown G4.out)).mono ?_; rintro e w' ⟨rfl, rfl⟩)
          exact ⟨rfl, .inr ⟨by simp [formB] at hf, rfl, G4.out⟩⟩
      · exact ⟨rfl, .inr ⟨by
          have : pNeed sRefresh l = none := by simpa using hv
          simp [pOp, hj, hv0, this], rfl, G1.out.trans g2⟩⟩
end Tx
end Go.Proofs.YtmlmlmcmhpahpaaDoor
