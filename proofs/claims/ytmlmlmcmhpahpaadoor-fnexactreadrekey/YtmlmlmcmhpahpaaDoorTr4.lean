
/- What is read whole: readWhole of the program at ops. A part that gives up answers false and the zero op. -/
import Derived.Test.YtmlmlmcmhpahpaaDoorTr3
import Derived.Defers
import Derived.Recover
namespace Go.Proofs.YtmlmlmcmhpahpaaDoor
open Go.RowKit Go.Shelf
namespace Tx

abbrev bb (z : Bool) : Obj := .cells #[.bool z] 4
theorem catchOp_panicking (p q : Nat) (x y : Int) (z : Bool) (u : TypeId) (pv : Value) (older : List PanicEntry) (w : World) (hp : w.heap[p]? = some (opb x y)) (hq : w.heap[q]? = some (bb z)) (hpq : p ≠ q) :
    CallsD Tryd.prog 46 #[.pointer (some ⟨p, 0, none⟩), .pointer (some ⟨q, 0, none⟩)] (.panicking ({ v := .iface u pv, recovered := false } :: older)) w fun e u' w' =>
      e = .returned (.tuple #[]) ∧ u' = .panicking ({ v := .iface u pv, recovered := true } :: older) ∧ w' = (((w.setCell ⟨p, 0, none⟩ (.int .i64 0)).setCell ⟨p, 1, none⟩ (.int .i64 0)).setCell ⟨q, 0, none⟩ (.bool false)).alloc (opb 0 0) := by
  refine callsD_of_wpS Tryd.func46 rfl fun c₀ cs hu => ?_
  apply wpS_seq
  apply wpS_region
  simp [wpOpsS, go_sem, recoverD, hu, Tryd.ntmps46, Exit.thenS]
  refine wpS_cond (t := true) (by simp [Act.eval, Array.replicate]) ?_
  simp only [if_true]
  obtain ⟨c0, c1, f0, f1⟩ := blk2 hp
  have d0 : w.cell? ⟨q, 0, none⟩ = some (.bool z) := by simp [World.cell?, hq]
  have z0 : w.frozen? ⟨q, 0, none⟩ = false := by simp [World.frozen?, hq]
  have lp : p < w.heap.size := cell_lt c0
  have lq : q < w.heap.size := cell_lt d0
  refine wpS_of_wp ?_
  change Code.wp Tryd.prog _ _ { tmps := #[.pointer (some ⟨p, 0, none⟩), .pointer (some ⟨q, 0, none⟩), undef, .iface u pv, .bool true, undef], defers := [] } w
  go_wp2
  simp [bodyPostS, results, Tryd.results46]

theorem catchOp_idle (p q : Addr) (w : World) :
    CallsD Tryd.prog 46 #[.pointer (some p), .pointer (some q)] .returning w fun e u' w' => e = .returned (.tuple #[]) ∧ u' = .returning ∧ w' = w := by
  refine callsD_of_wpS Tryd.func46 rfl fun c₀ cs hu => ?_
  apply wpS_seq
  apply wpS_region
  simp [wpOpsS, go_sem, recoverD, hu, Tryd.ntmps46, Exit.thenS]
  refine wpS_cond (t := false) (by simp [Act.eval, Array.replicate]) ?_
  simp only [Bool.false_eq_true, if_false]
  refine wpS_of_wp (wp_skip ?_)
  cases c₀
  simp_all [bodyPostS, results, Tryd.results46]

/-- What the deferred closure lays where the body gave up. -/
theorem caught {w1 : World} {p q : Nat} {x y : Int} {z : Bool} (hp : w1.heap[p]? = some (opb x y)) (hq : w1.heap[q]? = some (bb z)) (hpq : p ≠ q) :
    ∃ w2 : World, w2 = (((w1.setCell ⟨p, 0, none⟩ (.int .i64 0)).setCell ⟨p, 1, none⟩ (.int .i64 0)).setCell ⟨q, 0, none⟩ (.bool false)).alloc (opb 0 0) ∧
      w2.cell? ⟨p, 0, none⟩ = some (.int .i64 0) ∧ w2.cell? ⟨p, 1, none⟩ = some (.int .i64 0) ∧ w2.cell? ⟨q, 0, none⟩ = some (.bool false) ∧ (∀ i, i < w1.heap.size → i ≠ p → i ≠ q → w2.heap[i]? = w1.heap[i]?) ∧ w2.os = w1.os ∧ w2.tape = w1.tape ∧ w2.output = w1.output ∧ w1.heap.size ≤ w2.heap.size := by
  refine ⟨_, rfl, ?_⟩
  obtain ⟨s1, s2⟩ := set2 (.int .i64 0) (.int .i64 0) hp
  have hq1 := (s2.block q (by
    rcases Nat.lt_or_ge q w1.heap.size with h | h
    · exact h
    · simp [Array.getElem?_eq_none h] at hq) (by simpa using fun e => hpq e.symm)).trans hq
  have hz := s2.size
  have lp : p < w1.heap.size := cell_lt (blk2 hp).1
  have so := s2.os
  have st := s2.tape
  have su := s2.output
  have sb := s2.block
  generalize ((w1.setCell ⟨p, 0, none⟩ (.int .i64 0)).setCell ⟨p, 1, none⟩ (.int .i64 0)) = wa at s1 hq1 hz so st su sb ⊢
  have g := setBy (b := q) wa (.bool false)
  have e1 : (wa.setCell ⟨q, 0, none⟩ (.bool false)).heap[q]? = some (bb false) := by
    simp only [World.setCell, Array.getElem?_modify, hq1]
    simp
  have e2 := (g.block p (cell_lt (blk2 s1).1) (by simpa using fun e => hpq e)).trans s1
  have go := g.os
  have gt := g.tape
  have gu := g.output
  have gz := g.size
  have gb := g.block
  generalize wa.setCell ⟨q, 0, none⟩ (.bool false) = wb at e1 e2 go gt gu gz gb ⊢
  have f1 := (heap_old wb (opb 0 0) (cell_lt (blk2 e2).1)).trans e2
  have lq : q < wb.heap.size := (Array.getElem?_eq_some_iff.1 e1).1
  have f2 := (heap_old wb (opb 0 0) lq).trans e1
  obtain ⟨c0, c1, _, _⟩ := blk2 f1
  refine ⟨c0, c1, by simp [World.cell?, f2], fun i hi h1 h2 => ?_, ?_, ?_, ?_, ?_⟩
  · rw [heap_old wb (opb 0 0) (by omega), gb i (by omega) (by simpa using fun e => h2 e), sb i hi (by simpa using fun e => h1 e)]
  · exact (show (wb.alloc (opb 0 0)).os = wb.os from rfl).trans (go.trans so)
  · exact (show (wb.alloc (opb 0 0)).tape = wb.tape from rfl).trans (gt.trans st)
  · exact (show (wb.alloc (opb 0 0)).output = wb.output from rfl).trans (gu.trans su)
  · rw [World.size_alloc]; omega
/-- What is read, if nothing stands behind it. -/
def wholeOp (l : List UInt8) : Int × Int × Bool := match pOp l with
  | some (x, []) => (x.1, x.2, true)
  | _ => (0, 0, false)
theorem wholeOp_some {l : List UInt8} {x : Int × Int} (h : pOp l = some (x, [])) : wholeOp l = (x.1, x.2, true) := by simp [wholeOp, h]
theorem wholeOp_more {l : List UInt8} {x : Int × Int} {y : UInt8} {r : List UInt8} (h : pOp l = some (x, y :: r)) : wholeOp l = (0, 0, false) := by simp [wholeOp, h]
theorem wholeOp_none {l : List UInt8} (h : pOp l = none) : wholeOp l = (0, 0, false) := by simp [wholeOp, h]
abbrev opFn (b : Nat) : Value := .func (.func 29) #[rp b] #[]

set_option maxRecDepth 100000 in
set_option maxHeartbeats 1000000 in
theorem wholeOp_any (b : Nat) (ev : Value) (l : List UInt8) (w : World) (h : Rdr b l w) (hN : NoText b ev w) (hF : FormX b w) (hl : l.length ≤ 1048576) :
    Calls Tryd.prog 28 #[rp b, opFn b] w fun e w' => e = .returned (.tuple #[kv (wholeOp l).1 (wholeOp l).2.1, .bool (wholeOp l).2.2]) ∧ w.grownBy w' (some b) := by
  have hmf : ∀ (fn : Fn) (first cap : Array Value) (w : World), (Instr.makeFunc fn first cap).run Tryd.prog w = .ok (.func fn first cap) w := fun _ _ _ _ => rfl
  have HR := hidT h
  have HN := hidT hN
  have HF := hidT hF
  have hbl := h.lt
  have G0 := hidT (((World.grownBy.refl w (some b)).trans (World.grownBy_alloc w (opb 0 0) (some b))).trans (World.grownBy_alloc _ (bb false) (some b)))
  have R0 : Hid (Rdr b l ((w.alloc (opb 0 0)).alloc (bb false))) := (h.since (oneB _ _)).since (oneB _ _)
  have P0 := hidT (show ((w.alloc (opb 0 0)).alloc (bb false)).heap[w.heap.size]? = some (opb 0 0) from (heap_old _ _ (by simp)).trans (heap_new _ _))
  have Q0 := hidT (show ((w.alloc (opb 0 0)).alloc (bb false)).heap[w.heap.size + 1]? = some (bb false) by have := heap_new (w.alloc (opb 0 0)) (bb false); rwa [World.size_alloc] at this)
  clear h hN hF
  go_enter_defers Tryd.func28, Tryd.ntmps28
  go_wp2_with fail
  refine (op_any b ev l _ R0.out (HN.out.grown G0.out) (HF.out.grown G0.out) hl).mono ?_
  rintro e w1 (⟨v, l', hv, rfl, R1, g1⟩ | ⟨hv, rfl, g1⟩)
  · obtain ⟨k, m, hpo, rfl⟩ : ∃ k m, pOp l = some ((k, m), l') ∧ v = kv k m := by
      cases hn : pOp l with
      | none => simp [hn] at hv
      | some x =>
        simp [hn] at hv
        obtain ⟨e1, e2⟩ := hv
        exact ⟨x.1.1, x.1.2, by rw [← e2], e1.symm⟩
    have P1 := hidT ((g1.block _ (cell_lt (blk2 P0.out).1) (by simp; omega)).trans P0.out)
    have Q1 := hidT ((g1.block _ ((Array.getElem?_eq_some_iff.1 Q0.out).1) (by simp; omega)).trans Q0.out)
    have G1 := hidT (G0.out.trans g1)
    have R1 := hidT R1
    clear g1 hv
    obtain ⟨c0, c1, f0, f1⟩ := blk2 P1.out
    have HT := hidT (set2 (.int .i64 k) (.int .i64 m) P1.out)
    have G2 := hidT (G1.out.andThen HT.out.2 (fun j e => .inl (by cases e; first | omega | exact Nat.le_refl _)))
    have R2 : Hid (Rdr b l' _) := (HT.out.2.block b R1.out.lt (by simp; omega)).trans R1.out
    have Q2 := hidT ((HT.out.2.block _ ((Array.getElem?_eq_some_iff.1 Q1.out).1) (by simp)).trans Q1.out)
    have P2 := hidT HT.out.1
    have hr := R1.out.cell
    have hb0 : ¬ b = w.heap.size := by omega
    have hb1 : ¬ w.heap.size = b := by omega
    clear HT
    have HPO := hidT hpo
    clear hpo
    have q0 : w1.cell? ⟨w.heap.size + 1, 0, none⟩ = some (.bool false) := by simp [World.cell?, Q1.out]
    have q1 : w1.frozen? ⟨w.heap.size + 1, 0, none⟩ = false := by simp [World.frozen?, Q1.out]
    cases l' with
    | nil =>
      go_wp2
      generalize ((w1.setCell ⟨w.heap.size, 0, none⟩ (.int .i64 k)).setCell ⟨w.heap.size, 1, none⟩ (.int .i64 m)) = w2 at G2 R2 P2 Q2 ⊢
      clear c0 c1 f0 f1 hr q0 q1 R1 P1 Q1 G1
      have HT := hidT (set2 (.int .i64 k) (.int .i64 m) P2.out)
      have G3 := hidT (G2.out.andThen HT.out.2 (fun j e => .inl (by cases e; first | omega | exact Nat.le_refl _)))
      have Q3 := hidT ((HT.out.2.block _ ((Array.getElem?_eq_some_iff.1 Q2.out).1) (by simp)).trans Q2.out)
      have P3 := hidT HT.out.1
      clear HT P2 Q2 R2 G2
      generalize ((w2.setCell ⟨w.heap.size, 0, none⟩ (.int .i64 k)).setCell ⟨w.heap.size, 1, none⟩ (.int .i64 m)) = w3 at G3 P3 Q3 ⊢
      have g4 := setBy (b := w.heap.size + 1) w3 (.bool true)
      have G4 := hidT (G3.out.andThen g4 (fun j e => .inl (by cases e; first | omega | exact Nat.le_refl _)))
      have P4 := hidT ((g4.block _ (cell_lt (blk2 P3.out).1) (by simp)).trans P3.out)
      have Q4 : Hid ((w3.setCell ⟨w.heap.size + 1, 0, none⟩ (.bool true)).heap[w.heap.size + 1]? = some (bb true)) := by
        show (w3.setCell ⟨w.heap.size + 1, 0, none⟩ (.bool true)).heap[w.heap.size + 1]? = some (bb true)
        simp only [World.setCell, Array.getElem?_modify, Q3.out]
        simp
      clear g4
      generalize w3.setCell ⟨w.heap.size + 1, 0, none⟩ (.bool true) = w4 at G4 P4 Q4 ⊢
      refine leaves_cons (f := 46) (args := #[.pointer (some ⟨w.heap.size, 0, none⟩), .pointer (some ⟨w.heap.size + 1, 0, none⟩)]) (by simp) (by simp [go_sem]) ?_
      refine (catchOp_idle _ _ _).mono ?_
      rintro e u' w'' ⟨rfl, rfl, hw⟩
      subst hw
      obtain ⟨k0, k1, _, _⟩ := blk2 P4.out
      have k2 : w''.cell? ⟨w.heap.size + 1, 0, none⟩ = some (.bool true) := by simp [World.cell?, Q4.out]
      have HW := hidT (wholeOp_some HPO.out)
      simp [Leaves, settle, results, Tryd.results28, go_sem, k0, k1, k2]
      exact ⟨by rw [HW.out]; simp, G4.out⟩
    | cons y r =>
      go_wp2_with (go_at_call 47; refine (giveUp_any b ev _ (HN.out.grown G2.out)).mono ?_; rintro e w' ⟨rfl, rfl⟩)
      generalize ((w1.setCell ⟨w.heap.size, 0, none⟩ (.int .i64 k)).setCell ⟨w.heap.size, 1, none⟩ (.int .i64 m)) = w2 at G2 R2 P2 Q2 ⊢
      obtain ⟨wE, hE, k0, k1, k2, kb, ko, kt, ku, kz⟩ := caught P2.out Q2.out (by omega)
      obtain ⟨te, ve, rfl⟩ := HN.out.err
      refine leaves_cons (f := 46) (args := #[.pointer (some ⟨w.heap.size, 0, none⟩), .pointer (some ⟨w.heap.size + 1, 0, none⟩)]) (by simp) (by simp [go_sem]) ?_
      refine (catchOp_panicking w.heap.size (w.heap.size + 1) _ _ _ te ve [] _ P2.out Q2.out (by omega)).mono ?_
      rintro e u' w'' ⟨rfl, rfl, hw⟩
      rw [← hE] at hw
      subst hw
      have HQ := hidT (show w.grownBy w'' (some b) from ⟨ko.trans G2.out.os, kt.trans G2.out.tape, ku.trans G2.out.output, Nat.le_trans G2.out.size kz, fun i hi hne => (kb i (Nat.lt_of_lt_of_le hi G2.out.size) (by omega) (by omega)).trans (G2.out.block i hi hne)⟩)
      have HW := hidT (wholeOp_more HPO.out)
      clear hE kb ko kt ku kz
      simp [Leaves, settle, results, Tryd.results28, go_sem, k0, k1, k2]
      exact ⟨by rw [HW.out]; simp, HQ.out⟩
  · have hp0 : pOp l = none := by simpa using hv
    have P1 := hidT ((g1.block _ (cell_lt (blk2 P0.out).1) (by simp; omega)).trans P0.out)
    have Q1 := hidT ((g1.block _ ((Array.getElem?_eq_some_iff.1 Q0.out).1) (by simp; omega)).trans Q0.out)
    have G1 := hidT (G0.out.trans g1)
    clear g1 hv
    go_wp2
    obtain ⟨wE, hE, k0, k1, k2, kb, ko, kt, ku, kz⟩ := caught P1.out Q1.out (by omega)
    obtain ⟨te, ve, rfl⟩ := HN.out.err
    refine leaves_cons (f := 46) (args := #[.pointer (some ⟨w.heap.size, 0, none⟩), .pointer (some ⟨w.heap.size + 1, 0, none⟩)]) (by simp) (by simp [go_sem]) ?_
    refine (catchOp_panicking w.heap.size (w.heap.size + 1) _ _ _ te ve [] _ P1.out Q1.out (by omega)).mono ?_
    rintro e u' w'' ⟨rfl, rfl, hw⟩
    rw [← hE] at hw
    subst hw
    have HQ := hidT (show w.grownBy w'' (some b) from ⟨ko.trans G1.out.os, kt.trans G1.out.tape, ku.trans G1.out.output, Nat.le_trans G1.out.size kz, fun i hi hne => (kb i (Nat.lt_of_lt_of_le hi G1.out.size) (by omega) (by omega)).trans (G1.out.block i hi hne)⟩)
    have HW := hidT (wholeOp_none hp0)
    clear hE kb ko kt ku kz
    simp [Leaves, settle, results, Tryd.results28, go_sem, k0, k1, k2]
    exact ⟨by rw [HW.out]; simp, HQ.out⟩
end Tx
end Go.Proofs.YtmlmlmcmhpahpaaDoor
