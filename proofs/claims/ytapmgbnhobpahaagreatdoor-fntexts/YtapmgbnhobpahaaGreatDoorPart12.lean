/- What the drawn laws of the texts draw: a text that is hurt. -/
import Derived.Test.YtapmgbnhobpahaaGreatDoorPart10
import Derived.Test.YtapmgbnhobpahaaGreatDoorPart0
import Derived.Test.YtapmgbnhobpahaaGreatDoorPart9
import Derived.Test.YtapmgbnhobpahaaGreatDoorPart3
import Derived.Deep.Cut
import Derived.Test.YtapmgbnhobpahaaGreatDoorDtx1
import Derived.Test.YtapmgbnhobpahaaGreatDoorPart2
import Derived.Test.YtapmgbnhobpahaaGreatDoorPart4
import Derived.Deep.CutRange
import Derived.Stop.LaidErr
import Derived.Lib.LaidTab
import Derived.LaidMore
import Derived.RowKitTokens
namespace Go.Proofs.YtapmgbnhobpahaaGreatDoor
open Go.RowKit Go.Shelf
namespace Tx

theorem cell_lits (W : World) (t : TypeId) (cs : List UInt8) (j : Nat) (h : j < cs.length) : ∃ c : UInt8, (W.alloc (.cells (cs.map fun c => st [c]).toArray t)).cell? ⟨W.heap.size, j, none⟩ = some (st [c]) :=
  ⟨cs[j], by have e := heap_alloc_new W (.cells (cs.map fun c => st [c]).toArray t); unfold World.cell?; rw [e]; simp [h]⟩

set_option maxRecDepth 100000 in
set_option maxHeartbeats 2000000 in
theorem hurt_any (B R : Nat) (l : List UInt8) (W : World) (h : Q.Rd B R W) (hl : l.length ≤ 20000) :
    Calls Tryz.prog 36 #[.pointer (some ⟨R, 0, none⟩), st l] W fun e W' => ∃ l', e = .returned (st l') ∧ l'.length ≤ l.length + 1 ∧ Q.Rd B R W' ∧ W.grownBy W' (some R) := by
  go_enter Tryz.func36, Tryz.ntmps36
  go_wp2_with fail
  refine (Q.below_any B R 6 _ h (by omega) (by omega)).mono ?_
  rintro e w1 ⟨x, hx0, hx1, rfl, hR, hg⟩
  have HR := hidT hR
  have HG := hidT hg
  clear hR hg h
  by_cases h1 : x = 1
  · subst h1
    go_wp2_with fail
    refine (Q.below_any B R _ _ HR.out (by omega) (by omega)).mono ?_
    rintro e w2 ⟨y, hy0, hy1, rfl, hR2, hg2⟩
    obtain ⟨k, rfl⟩ : ∃ k : Nat, y = (k : Int) := ⟨y.toNat, by omega⟩
    have hk : k ≤ l.length := by omega
    have hk' : (k : Int) ≤ (l.length : Int) := by omega
    have HR2 := hidT hR2
    have HG2 := hidT (HG.out.trans hg2)
    clear hR2 hg2 HR HG
    go_wp2
    go_ret
    refine ⟨l.take k, ?_, by simp; omega, HR2.out, HG2.out⟩
    show Ending.returned (.string ((⟨l.toArray⟩ : ByteArray).extract 0 k)) = _
    rw [ext_take]
  · have h1' : (x == 1) = false := by simpa using h1
    by_cases h2 : x = 2
    · subst h2
      by_cases h0 : 0 < (l.length : Int)
      · go_wp2_with fail
        refine (Q.below_any B R _ _ HR.out (by omega) (by omega)).mono ?_
        rintro e w2 ⟨y, hy0, hy1, rfl, hR2, hg2⟩
        obtain ⟨k, rfl⟩ : ∃ k : Nat, y = (k : Int) := ⟨y.toNat, by omega⟩
        have hk : k ≤ l.length := by omega
        have hk' : (k : Int) ≤ (l.length : Int) := by omega
        have hk1 : (k : Int) + 1 ≤ (l.length : Int) := by omega
        have HR2 := hidT hR2
        have HG2 := hidT (HG.out.trans hg2)
        clear hR2 hg2 HR HG
        go_wp2
        refine wp_region_any (by kernel_rfl) ?_
        try (change wpAny _ _ _ _ _ _ _ (World.drew _))
        have hT := ext_take l k
        have hD := ext_drop l (k + 1) l.length rfl
        have hR2l := HR2.out.lt
        have hk0 : ¬ ((k : Int) + 1 < 0) := by omega
        have hkw : IntKind.i64.wrap ((k : Int) + 1) = (k : Int) + 1 := by simp [IntKind.wrap, IntKind.bits, IntKind.signed]; omega
        refine wpAny_take (i := 0) (v := st l) rfl (by kernel_rfl) (by kernel_rfl) (by kernel_rfl) (fun _ _ _ h => h) (Or.inl ⟨by rfl, fun w => by go_simp⟩) ?_
        refine wpAny_take (i := 1) (v := .int .i64 (k : Int)) rfl (by kernel_rfl) (by kernel_rfl) (by kernel_rfl) (fun _ _ _ h => h) (Or.inl ⟨by rfl, fun w => by go_simp⟩) ?_
        refine wpAny_take (i := 4) (v := .pointer (some ⟨R, 0, none⟩)) rfl (by kernel_rfl) (by kernel_rfl) (by kernel_rfl) (fun _ _ _ h => h) (Or.inl ⟨by rfl, fun w => by go_simp⟩) ?_
        refine wpAny_take (i := 9) (v := st l) rfl (by kernel_rfl) (by kernel_rfl) (by kernel_rfl) (fun _ _ _ h => h) (Or.inl ⟨by rfl, fun w => by go_simp⟩) ?_
        refine wpAny_take (i := 10) (v := .int .i64 (k : Int)) rfl (by kernel_rfl) (by kernel_rfl) (by kernel_rfl) (fun _ _ _ h => h) (Or.inl ⟨by rfl, fun w => by go_simp⟩) ?_
        refine wpAny_take (i := 2) (v := st (l.take k)) rfl (by kernel_rfl) (by kernel_rfl) (by kernel_rfl) (fun _ _ _ h => h) (Or.inl ⟨by rfl, fun w => by go_simp⟩) ?_
        refine wpAny_take (i := 11) (v := .int .i64 ((k : Int) + 1)) rfl (by kernel_rfl) (by kernel_rfl) (by kernel_rfl) (fun _ _ _ h => h) (Or.inl ⟨by rfl, fun w => by go_simp⟩) ?_
        refine wpAny_take (i := 12) (v := st (l.drop (k + 1))) rfl (by kernel_rfl) (by kernel_rfl) (by kernel_rfl) (fun _ _ _ h => h) (Or.inl ⟨by rfl, fun w => by go_simp⟩) ?_
        have a1 := fun (w : World) (c : UInt8) => run_string_add_lists (P := Tryz.prog) w (l.take k) [c] (by simp; omega) (by simp)
        have a2 := fun (w : World) (c : UInt8) => run_string_add_lists (P := Tryz.prog) w (l.take k ++ [c]) (l.drop (k + 1)) (by simp; omega) (by simp; omega)
        refine wpAny_ready (rs := [3, 5]) (by kernel_rfl) (by simp) ?_
        refine AllReady.cons rfl (fun K hK => ?_) (AllReady.cons rfl (fun K hK => ?_) AllReady.nil)
        · go_simp
          refine hK _ _ ?_
          clear hK K
          refine wpAny_ready (rs := [5]) (by kernel_rfl) (by simp) ?_
          refine AllReady.cons rfl (fun K hK => ?_) AllReady.nil
          go_simp
          refine (Q.below_any B R 6 _ ((HR2.out.drewN 1).alloc _) (by omega) (by omega)).mono ?_
          rintro e w4 ⟨x, hx0, hx1, rfl, hR4, hg4⟩
          obtain ⟨j, rfl⟩ : ∃ j : Nat, x = (j : Int) := ⟨x.toNat, by omega⟩
          obtain ⟨c, hc0⟩ := cell_lits w2.drew 9 [48, 49, 32, 46, 62, 120] j (by simp; omega)
          have hc : w4.cell? ⟨w2.heap.size, j, none⟩ = some (st [c]) := hg4.cell hc0 (by simp; omega)
          have HR4 := hidT hR4
          have HG4 := hidT ((((HG2.out.trans (Q.grown_drew _ _)).trans (World.grownBy_alloc _ _ _))).trans hg4)
          clear hR4 hg4 hc0
          have hj : j < 6 := by omega
          refine hK _ _ ?_
          clear hK K
          refine wpAny_take (i := 6) (v := .pointer (some ⟨w2.heap.size, j, none⟩)) rfl (by kernel_rfl) (by kernel_rfl) (by kernel_rfl) (fun _ _ _ h => h) (Or.inl ⟨by rfl, fun w => by go_simp⟩) ?_
          refine wpAny_ready (rs := [7]) (by kernel_rfl) (by simp) ?_
          refine AllReady.cons rfl (fun K hK => ?_) AllReady.nil
          go_simp
          refine hK _ _ ?_
          clear hK K
          refine wpAny_take (i := 8) (v := st (l.take k ++ [c])) rfl (by kernel_rfl) (by kernel_rfl) (by kernel_rfl) (fun _ _ _ h => h) (Or.inl ⟨by rfl, fun w => by go_simp⟩) ?_
          refine wpAny_take (i := 13) (v := st ((l.take k ++ [c]) ++ l.drop (k + 1))) rfl (by kernel_rfl) (by kernel_rfl) (by kernel_rfl) (fun _ _ _ h => h) (Or.inl ⟨by rfl, fun w => by go_simp⟩) ?_
          refine wpAny_take (i := 14) (v := st ((l.take k ++ [c]) ++ l.drop (k + 1))) rfl (by kernel_rfl) (by kernel_rfl) (by kernel_rfl) (fun _ _ _ h => h) (Or.inl ⟨by rfl, fun w => by go_simp⟩) ?_
          refine wpAny_done (by kernel_rfl) ?_ _
          go_wp2
          go_ret
          exact ⟨_, rfl, by simp; omega, HR4.out, HG4.out⟩
        · go_simp
          refine (Q.below_any B R 6 _ (HR2.out.drewN 1) (by omega) (by omega)).mono ?_
          rintro e w4 ⟨x, hx0, hx1, rfl, hR4, hg4⟩
          obtain ⟨j, rfl⟩ : ∃ j : Nat, x = (j : Int) := ⟨x.toNat, by omega⟩
          have HR4 := hidT hR4
          have HG4 := hidT ((HG2.out.trans (Q.grown_drew _ _)).trans hg4)
          clear hR4 hg4
          have hj : j < 6 := by omega
          refine hK _ _ ?_
          clear hK K
          refine wpAny_ready (rs := [3]) (by kernel_rfl) (by simp) ?_
          refine AllReady.cons rfl (fun K hK => ?_) AllReady.nil
          go_simp
          refine hK _ _ ?_
          clear hK K
          obtain ⟨c, hc0⟩ := cell_lits w4 9 [48, 49, 32, 46, 62, 120] j (by simp; omega)
          simp only [List.map] at hc0
          have HR4 := hidT (HR4.out.alloc (.cells #[st [48], st [49], st [32], st [46], st [62], st [120]] 9))
          have HG4 := hidT (HG4.out.trans (World.grownBy_alloc w4 (.cells #[st [48], st [49], st [32], st [46], st [62], st [120]] 9) (some R)))
          generalize hws : w4.alloc (.cells #[st [48], st [49], st [32], st [46], st [62], st [120]] 9) = w5 at HR4 HG4 hc0 ⊢
          clear hws
          refine wpAny_take (i := 6) (v := .pointer (some ⟨w4.heap.size, j, none⟩)) rfl (by kernel_rfl) (by kernel_rfl) (by kernel_rfl) (fun _ _ _ h => h) (Or.inl ⟨by rfl, fun w => by go_simp⟩) ?_
          refine wpAny_ready (rs := [7]) (by kernel_rfl) (by simp) ?_
          refine AllReady.cons rfl (fun K hK => ?_) AllReady.nil
          go_simp
          refine hK _ _ ?_
          clear hK K
          refine wpAny_take (i := 8) (v := st (l.take k ++ [c])) rfl (by kernel_rfl) (by kernel_rfl) (by kernel_rfl) (fun _ _ _ h => h) (Or.inl ⟨by rfl, fun w => by go_simp⟩) ?_
          refine wpAny_take (i := 13) (v := st ((l.take k ++ [c]) ++ l.drop (k + 1))) rfl (by kernel_rfl) (by kernel_rfl) (by kernel_rfl) (fun _ _ _ h => h) (Or.inl ⟨by rfl, fun w => by go_simp⟩) ?_
          refine wpAny_take (i := 14) (v := st ((l.take k ++ [c]) ++ l.drop (k + 1))) rfl (by kernel_rfl) (by kernel_rfl) (by kernel_rfl) (fun _ _ _ h => h) (Or.inl ⟨by rfl, fun w => by go_simp⟩) ?_
          refine wpAny_done (by kernel_rfl) ?_ _
          go_wp2
          go_ret
          exact ⟨_, rfl, by simp; omega, HR4.out, HG4.out⟩
      · go_wp2
        go_ret
        exact ⟨l, rfl, by omega, HR.out, HG.out⟩
    · have h2' : (x == 2) = false := by simpa using h2
      by_cases h3 : x = 3
      · subst h3
        have hR1l := HR.out.lt
        have a3 := fun (w : World) (c : UInt8) => run_string_add_lists (P := Tryz.prog) w l [c] (by omega) (by simp)
        go_wp2_with fail
        refine (Q.below_any B R 3 _ (HR.out.alloc _) (by omega) (by omega)).mono ?_
        rintro e w4 ⟨x, hx0, hx1, rfl, hR4, hg4⟩
        obtain ⟨j, rfl⟩ : ∃ j : Nat, x = (j : Int) := ⟨x.toNat, by omega⟩
        obtain ⟨c, hc0⟩ := cell_lits w1 9 [32, 46, 48] j (by simp; omega)
        have hc : w4.cell? ⟨w1.heap.size, j, none⟩ = some (st [c]) := hg4.cell hc0 (by simp; omega)
        have HR4 := hidT hR4
        have HG4 := hidT ((HG.out.trans (World.grownBy_alloc _ _ _)).trans hg4)
        clear hR4 hg4 hc0
        have hj : j < 3 := by omega
        go_wp2
        go_ret
        exact ⟨_, rfl, by simp, HR4.out, HG4.out⟩
      · have h3' : (x == 3) = false := by simpa using h3
        go_wp2
        go_ret
        exact ⟨l, rfl, by omega, HR.out, HG.out⟩
end Tx
end Go.Proofs.YtapmgbnhobpahaaGreatDoor
/- What the drawn law of the texts draws: an op, and the text of an op that is hurt. -/
namespace Go.Proofs.YtapmgbnhobpahaaGreatDoor
open Go.RowKit Go.Shelf
namespace Tx

set_option maxRecDepth 100000 in
set_option maxHeartbeats 2000000 in
theorem drawOpText_any (a : Option Addr) (len cap : Nat) (W : World) (h : Q.Bytes W.heap.size a len W) :
    Calls Tryz.prog 5 #[.slice a len cap] W fun e W' => ∃ k m : Int, e = .returned (kv k m) ∧ Below W.heap.size W W' := by
  have P1 := hidT (heap_new W (opb 0 0))
  have HB := hidT (h.kept (oneB W (opb 0 0)))
  clear h
  go_enter Tryz.func5, Tryz.ntmps5
  go_wp2_with fail
  refine (Q.l1Open_any a len cap _).mono ?_
  rintro e w2 ⟨rfl, hw2⟩
  have R2 := hidT (show Q.Rd W.heap.size (W.heap.size + 1) w2 by rw [hw2]; have := HB.out.rd (by simp) cap; rwa [World.size_alloc] at this)
  have B2 := hidT (show Below W.heap.size W w2 by rw [hw2]; exact (oneB _ _).alloc (by simp) _)
  have P2 := hidT (show w2.heap[W.heap.size]? = some (opb 0 0) by rw [hw2]; exact (heap_old _ _ (by simp)).trans P1.out)
  clear hw2 HB P1
  go_wp2_with fail
  refine (drawOp_any W.heap.size (W.heap.size + 1) w2 R2.out).mono ?_
  rintro e w3 ⟨k, m, rfl, hR3, hg3⟩
  have B3 := hidT (B2.out.grown hg3 B2.out.size (fun j e => by cases e; omega))
  have P3 := hidT ((hg3.block _ (cell_lt (blk2 P2.out).1) (by simp)).trans P2.out)
  have hp3 : W.heap.size < w3.heap.size := cell_lt (blk2 P3.out).1
  have R4 := hidT (hR3.alloc (opb k m))
  have B4 := hidT (B3.out.alloc B3.out.size (opb k m))
  have P4 := hidT ((heap_old w3 (opb k m) hp3).trans P3.out)
  have Q4 := hidT (heap_new w3 (opb k m))
  have hr3 := hR3.lt
  clear hR3 hg3 B2 P2 R2
  go_wp2_with fail
  generalize w3.alloc (.cells #[.int .i64 k, .int .i64 m] 25) = w4 at R4 B4 P4 Q4 ⊢
  refine (Q.once_any _ _ 8 _ R4.out (by omega) (by omega)).mono ?_
  rintro e w5 ⟨t, rfl, hR5, hg5⟩
  have B5 := hidT (B4.out.grown hg5 B4.out.size (fun j e => by cases e; omega))
  have P5 := hidT ((hg5.block _ (cell_lt (blk2 P4.out).1) (by simp)).trans P4.out)
  have Q5 := hidT ((hg5.block _ (cell_lt (blk2 Q4.out).1) (by simp; omega)).trans Q4.out)
  have R5 := hidT hR5
  clear hR5 hg5 B4 P4 Q4 R4
  have hne : ¬ W.heap.size = w3.heap.size := by omega
  have hne' : ¬ w3.heap.size = W.heap.size := by omega
  cases t with
  | false =>
    obtain ⟨c0, c1, f0, f1⟩ := blk2 Q5.out
    obtain ⟨d0, d1, z0, z1⟩ := blk2 P5.out
    have HT := hidT (set2 (.int .i64 k) (.int .i64 m) P5.out)
    have B9 := hidT (B5.out.grown HT.out.2 B5.out.size (fun j e => by cases e; exact Nat.le_refl _))
    have P9 := hidT HT.out.1
    clear HT
    go_wp2
    generalize ((w5.setCell ⟨W.heap.size, 0, none⟩ (.int .i64 k)).setCell ⟨W.heap.size, 1, none⟩ (.int .i64 m)) = w9 at B9 P9 ⊢
    obtain ⟨e0, e1, _, _⟩ := blk2 P9.out
    exact bodyPost_ret (v := kv k m) (by simp [results, Tryz.results5, go_sem, e0, e1]) rfl ⟨k, m, rfl, B9.out⟩
  | true =>
    go_wp2_with fail
    refine (Q.off_any _ _ 1 3 _ R5.out (by omega) (by omega) (by omega)).mono ?_
    rintro e w6 ⟨y, _, rfl, hR6, hg6⟩
    have B6 := hidT (B5.out.grown hg6 B5.out.size (fun j e => by cases e; omega))
    have P6 := hidT ((hg6.block _ (cell_lt (blk2 P5.out).1) (by simp)).trans P5.out)
    have Q6 := hidT ((hg6.block _ (cell_lt (blk2 Q5.out).1) (by simp; omega)).trans Q5.out)
    clear hR6 hg6 B5 P5 Q5 R5
    obtain ⟨c0, c1, f0, f1⟩ := blk2 Q6.out
    have g7 := setBy (b := w3.heap.size) w6 (.int .i64 y)
    have B7 := hidT (B6.out.grown g7 B6.out.size (fun j e => by cases e; omega))
    have P7 := hidT ((g7.block _ (cell_lt (blk2 P6.out).1) (by simp; omega)).trans P6.out)
    have Q7 : Hid ((w6.setCell ⟨w3.heap.size, 0, none⟩ (.int .i64 y)).heap[w3.heap.size]? = some (opb y m)) := by
      show (w6.setCell ⟨w3.heap.size, 0, none⟩ (.int .i64 y)).heap[w3.heap.size]? = some (opb y m)
      simp only [World.setCell, Array.getElem?_modify, Q6.out]
      simp
    clear g7 P6 Q6 B6
    go_upto_region 5 with fail
    generalize w6.setCell ⟨w3.heap.size, 0, none⟩ (.int .i64 y) = w7 at B7 P7 Q7 ⊢
    clear c0 c1 f0 f1
    obtain ⟨c0, c1, f0, f1⟩ := blk2 Q7.out
    obtain ⟨d0, d1, z0, z1⟩ := blk2 P7.out
    have HT := hidT (set2 (.int .i64 y) (.int .i64 m) P7.out)
    have B9 := hidT (B7.out.grown HT.out.2 B7.out.size (fun j e => by cases e; exact Nat.le_refl _))
    have P9 := hidT HT.out.1
    clear HT
    go_wp2
    generalize ((w7.setCell ⟨W.heap.size, 0, none⟩ (.int .i64 y)).setCell ⟨W.heap.size, 1, none⟩ (.int .i64 m)) = w9 at B9 P9 ⊢
    obtain ⟨e0, e1, _, _⟩ := blk2 P9.out
    exact bodyPost_ret (v := kv y m) (by simp [results, Tryz.results5, go_sem, e0, e1]) rfl ⟨y, m, rfl, B9.out⟩

set_option maxRecDepth 100000 in
set_option maxHeartbeats 2000000 in
theorem drawReadOp_any (a : Option Addr) (len cap : Nat) (W : World) (h : Q.Bytes W.heap.size a len W) :
    Calls Tryz.prog 14 #[.slice a len cap] W fun e W' => ∃ l : List UInt8, e = .returned (st l) ∧ l.length ≤ 1048576 ∧ Below W.heap.size W W' := by
  have HB := hidT h
  clear h
  go_enter Tryz.func14, Tryz.ntmps14
  go_wp2_with fail
  refine (Q.l1Open_any a len cap _).mono ?_
  rintro e w2 ⟨rfl, hw2⟩
  have R2 := hidT (show Q.Rd W.heap.size W.heap.size w2 by rw [hw2]; exact HB.out.rd (Nat.le_refl _) cap)
  have B2 := hidT (show Below W.heap.size W w2 by rw [hw2]; exact oneB _ _)
  clear hw2 HB
  go_wp2_with fail
  refine (drawOp_any W.heap.size W.heap.size w2 R2.out).mono ?_
  rintro e w3 ⟨k, m, rfl, hR3, hg3⟩
  have B3 := hidT (B2.out.grown hg3 B2.out.size (fun j e => by cases e; exact Nat.le_refl _))
  have R3 := hidT hR3
  clear hR3 hg3 B2 R2
  go_wp2_with fail
  refine (specOpText_any k m _).mono ?_
  rintro e w4 ⟨rfl, hb4⟩
  have B4 := hidT (B3.out.trans (hb4.mono B3.out.size))
  have R4 := hidT (R3.out.kept (Q.grown_below hb4) (fun j e => by cases e))
  clear hb4 B3 R3
  have hol := opText_len k m
  go_wp2_with fail
  refine (hurt_any _ _ (opText k m) _ R4.out (by omega)).mono ?_
  rintro e w5 ⟨l, rfl, hll, hR5, hg5⟩
  have B5 := hidT (B4.out.grown hg5 B4.out.size (fun j e => by cases e; exact Nat.le_refl _))
  clear hR5 hg5
  go_wp2
  go_ret
  exact ⟨l, rfl, by omega, B5.out⟩
end Tx
end Go.Proofs.YtapmgbnhobpahaaGreatDoor
/- What the drawn law of the texts draws: a rekey, and the text of a rekey that is hurt. -/
namespace Go.Proofs.YtapmgbnhobpahaaGreatDoor
open Go.RowKit Go.Shelf
namespace Tx

theorem rekText_len {ep : Int} {ws : List W4} (h : ws.length ≤ 8) : (rekText ep ws).length ≤ 2000 := by
  unfold rekText
  by_cases hR : rkB ep ws = true
  · rw [if_pos hR]
    obtain ⟨h1, h2, h3, h4⟩ := rkB_nat hR
    have a := dec_len 9 ep.toNat (by omega)
    have b := rekW_len ws h4
    simp [rekT]
    omega
  · rw [if_neg hR]; simp

set_option maxRecDepth 100000 in
set_option maxHeartbeats 2000000 in
theorem drawRekeyText_any (a : Option Addr) (len cap : Nat) (W : World) (h : Q.Bytes W.heap.size a len W) :
    Calls Tryz.prog 8 #[.slice a len cap] W fun e W' => ∃ (ep : Int) (x : Value) (ws : List W4), e = .returned (rv ep x) ∧ Wraps W.heap.size x ws W' ∧ Below W.heap.size W W' := by
  have P1 := hidT (heap_new W (rb 0 (.slice none 0 0)))
  have HB := hidT (h.kept (oneB W (rb 0 (.slice none 0 0))))
  clear h
  go_enter Tryz.func8, Tryz.ntmps8
  go_wp2_with fail
  refine (Q.l1Open_any a len cap _).mono ?_
  rintro e w2 ⟨rfl, hw2⟩
  have R2 := hidT (show Q.Rd W.heap.size (W.heap.size + 1) w2 by rw [hw2]; have := HB.out.rd (by simp) cap; rwa [World.size_alloc] at this)
  have B2 := hidT (show Below W.heap.size W w2 by rw [hw2]; exact (oneB _ _).alloc (by simp) _)
  have P2 := hidT (show w2.heap[W.heap.size]? = some (rb 0 (.slice none 0 0)) by rw [hw2]; exact (heap_old _ _ (by simp)).trans P1.out)
  clear hw2 HB P1
  go_wp2_with fail
  refine (Dt.drawRekey_any W.heap.size (W.heap.size + 1) w2 R2.out).mono ?_
  rintro e w3 ⟨ep, x, ws, rfl, hw3, _, hR3, hg3⟩
  have B3 := hidT (B2.out.grown hg3 B2.out.size (fun j e => by cases e; omega))
  have P3 := hidT ((hg3.block _ (cell_lt (blk2 P2.out).1) (by simp)).trans P2.out)
  have V3 := hidT (Dt.wlow hw3 B2.out.size)
  obtain ⟨av, nv, cv, rfl⟩ := Dt.wform hw3
  clear hw3 hR3 hg3
  obtain ⟨d0, d1, z0, z1⟩ := blk2 P3.out
  have HT := hidT (set2 (.int .i64 ep) (.slice av nv cv) P3.out)
  have B9 := hidT (B3.out.grown HT.out.2 B3.out.size (fun j e => by cases e; exact Nat.le_refl _))
  have V9 := hidT (Dt.wkept V3.out HT.out.2 (fun k e => by cases e; exact Dt.wne V3.out P3.out (by decide)))
  have P9 := hidT HT.out.1
  clear HT
  go_wp2
  generalize ((w3.setCell ⟨W.heap.size, 0, none⟩ (.int .i64 ep)).setCell ⟨W.heap.size, 1, none⟩ (.slice av nv cv)) = w9 at B9 P9 V9 ⊢
  obtain ⟨e0, e1, _, _⟩ := blk2 P9.out
  exact bodyPost_ret (v := rv ep (.slice av nv cv)) (by simp [results, Tryz.results8, go_sem, e0, e1]) rfl ⟨ep, _, ws, rfl, V9.out, B9.out⟩

set_option maxRecDepth 100000 in
set_option maxHeartbeats 2000000 in
theorem drawReadRekey_any (a : Option Addr) (len cap : Nat) (W : World) (h : Q.Bytes W.heap.size a len W) :
    Calls Tryz.prog 16 #[.slice a len cap] W fun e W' => ∃ l : List UInt8, e = .returned (st l) ∧ l.length ≤ 1048576 ∧ Below W.heap.size W W' := by
  have HB := hidT h
  clear h
  go_enter Tryz.func16, Tryz.ntmps16
  go_wp2_with fail
  refine (Q.l1Open_any a len cap _).mono ?_
  rintro e w2 ⟨rfl, hw2⟩
  have R2 := hidT (show Q.Rd W.heap.size W.heap.size w2 by rw [hw2]; exact HB.out.rd (Nat.le_refl _) cap)
  have B2 := hidT (show Below W.heap.size W w2 by rw [hw2]; exact oneB _ _)
  clear hw2 HB
  go_wp2_with fail
  refine (Dt.drawRekey_any W.heap.size W.heap.size w2 R2.out).mono ?_
  rintro e w3 ⟨ep, x, ws, rfl, hw3, hwl, hR3, hg3⟩
  have B3 := hidT (B2.out.grown hg3 B2.out.size (fun j e => by cases e; exact Nat.le_refl _))
  have R3 := hidT hR3
  have V3 := hidT hw3
  clear hR3 hg3 B2 R2 hw3
  go_wp2_with fail
  refine (specRekeyText_any ep V3.out).mono ?_
  rintro e w4 ⟨rfl, hb4⟩
  have B4 := hidT (B3.out.trans (hb4.mono B3.out.size))
  have R4 := hidT (R3.out.kept (Q.grown_below hb4) (fun j e => by cases e))
  clear hb4 B3 R3
  have hol := rekText_len (ep := ep) hwl
  go_wp2_with fail
  refine (hurt_any _ _ (rekText ep ws) _ R4.out (by omega)).mono ?_
  rintro e w5 ⟨l, rfl, hll, hR5, hg5⟩
  have B5 := hidT (B4.out.grown hg5 B4.out.size (fun j e => by cases e; exact Nat.le_refl _))
  clear hR5 hg5
  go_wp2
  go_ret
  exact ⟨l, rfl, by omega, B5.out⟩
end Tx
end Go.Proofs.YtapmgbnhobpahaaGreatDoor
/- The drawn law of the texts. -/
namespace Go.Proofs.YtapmgbnhobpahaaGreatDoor
open Go.RowKit Go.Shelf
namespace Tx


theorem rekText_len2 (ep : Int) (ws : List W4) : (rekText ep ws).length ≤ 1048576 := by
  unfold rekText
  by_cases hR : rkB ep ws = true
  · rw [if_pos hR]
    obtain ⟨h1, h2, h3, h4⟩ := rkB_nat hR
    have a := dec_len 9 ep.toNat (by omega)
    have b := rekW_len ws h4
    simp [rekT]
    omega
  · rw [if_neg hR]; simp
theorem wholeOp_nil : wholeOp [] = (0, 0, false) := by decide
theorem wholeRk_nil : wholeRk [] = (0, [], false) := by decide
theorem wholeOp_right {k m : Int} (h : formB k m = true) : wholeOp (opText k m) = (k, m, true) ∧ opText k m ≠ [] := by
  have e : opText k m = opT k m := by simp [opText, h]
  rw [e]
  exact ⟨wholeOp_some (pOp_text h), opT_ne k m⟩
theorem wholeOp_wrong {k m : Int} (h : formB k m = false) : opText k m = [] := by simp [opText, h]
theorem wholeRk_right {ep : Int} {ws : List W4} (h : rkB ep ws = true) : wholeRk (rekText ep ws) = (ep, ws, true) ∧ rekText ep ws ≠ [] := by
  have e : rekText ep ws = rekT ep ws := by simp [rekText, h]
  rw [e]
  exact ⟨wholeRk_some (pRekey_text h), rekT_ne ep ws⟩
theorem wholeRk_wrong {ep : Int} {ws : List W4} (h : rkB ep ws = false) : rekText ep ws = [] := by simp [rekText, h]
/-- What the walk bears along: the package's variables, the code's bytes, what lies below. -/
structure Ft (W : World) (a : Option Addr) (len : Nat) (w : World) : Prop where
  no : HasNo w
  form : HasForm w
  pow : HasPow w
  by' : Q.Bytes w.heap.size a len w
  bel : Below W.heap.size W w
theorem bytesUp {B C : Nat} {a : Option Addr} {len : Nat} {w : World} (h : Q.Bytes B a len w) (hB : B ≤ C) : Q.Bytes C a len w := by
  refine ⟨h.1, fun i hi => ?_⟩
  obtain ⟨b, off, z, e, hb, hc, hw⟩ := h.2 i hi
  exact ⟨b, off, z, e, Nat.lt_of_lt_of_le hb hB, hc, hw⟩
theorem Ft.since {W w w' : World} {a : Option Addr} {len : Nat} (h : Ft W a len w) (hb : Below w.heap.size w w') : Ft W a len w' :=
  ⟨h.no.since hb, h.form.since hb, h.pow.since hb, bytesUp (h.by'.kept hb) hb.size, h.bel.trans (hb.mono h.bel.size)⟩

set_option maxRecDepth 100000 in
set_option maxHeartbeats 4000000 in
theorem fnTexts_any (a : Option Addr) (len cap : Nat) (W : World) (h0 : Q.Bytes W.heap.size a len W) (hN : HasNo W) (hF : HasForm W) (hP : HasPow W) :
    Calls Tryz.prog 3 #[.slice a len cap] W fun e w' => e = .returned (.bool true) ∧ Below W.heap.size W w' := by
  have F0 := hidT (show Ft W a len W from ⟨hN, hF, hP, h0, Below.refl _ _⟩)
  clear hN hF hP h0
  go_enter Tryz.func3, Tryz.ntmps3
  go_wp2_with fail
  refine (Q.big_any a len cap W).mono ?_
  rintro e w' ⟨rfl, hw'⟩
  subst hw'
  by_cases hbig : (1048576 : Int) < (len : Int)
  · rw [decide_eq_true hbig]
    go_wp2
    go_ret
    exact ⟨rfl, F0.out.bel⟩
  rw [decide_eq_false hbig]
  go_wp2_with fail
  refine (drawOpText_any a len cap w' F0.out.by').mono ?_
  rintro e w1 ⟨k, m, rfl, hb1⟩
  have F2 := hidT ((F0.out.since hb1).since (oneB w1 (opb k m)))
  have P2 := hidT (heap_new w1 (opb k m))
  clear hb1
  go_wp2_with fail
  generalize w1.alloc (.cells #[.int .i64 k, .int .i64 m] 25) = w2 at F2 P2 ⊢
  generalize w1.heap.size = po at P2 ⊢
  refine (opText_any k m _ F2.out.form).mono ?_
  rintro e w3 ⟨rfl, hb3⟩
  have F3 := hidT (F2.out.since hb3)
  have P3 := hidT ((hb3.block _ (cell_lt (blk2 P2.out).1)).trans P2.out)
  clear hb3 F2 P2
  have hol := opText_len k m
  go_wp2_with fail
  refine (readOp_any (opText k m) _ F3.out.no F3.out.form (by omega)).mono ?_
  rintro e w4 ⟨rfl, hb4⟩
  obtain ⟨k1, m1, ok1, HX1⟩ : ∃ k1 m1 ok1, Hid (wholeOp (opText k m) = (k1, m1, ok1)) := ⟨_, _, _, rfl⟩
  rw [HX1.out]
  have F5 := hidT ((F3.out.since hb4).since (oneB w4 (opb k1 m1)))
  have P5 := hidT ((heap_old w4 (opb k1 m1) (cell_lt (blk2 ((hb4.block _ (cell_lt (blk2 P3.out).1)).trans P3.out)).1)).trans ((hb4.block _ (cell_lt (blk2 P3.out).1)).trans P3.out))
  have Q5 := hidT (heap_new w4 (opb k1 m1))
  clear hb4 F3 P3
  go_wp2_with fail
  generalize w4.alloc (.cells #[.int .i64 k1, .int .i64 m1] 25) = w5 at F5 P5 Q5 ⊢
  generalize w4.heap.size = pp at Q5 ⊢
  refine (drawRekeyText_any a len cap w5 F5.out.by').mono ?_
  rintro e w6 ⟨ep, x, ws, rfl, hw6, hb6⟩
  obtain ⟨ax, cx, hx⟩ := wrapsRow hw6
  obtain ⟨N, HLEN⟩ : ∃ n, Hid (ws.length = n) := ⟨_, rfl⟩
  rw [HLEN.out] at hx
  subst hx
  have F7 := hidT ((F5.out.since hb6).since (oneB w6 (rb ep (.slice ax N cx))))
  have P7 := hidT ((heap_old w6 (rb ep (.slice ax N cx)) (cell_lt (blk2 ((hb6.block _ (cell_lt (blk2 P5.out).1)).trans P5.out)).1)).trans ((hb6.block _ (cell_lt (blk2 P5.out).1)).trans P5.out))
  have Q7 := hidT ((heap_old w6 (rb ep (.slice ax N cx)) (cell_lt (blk2 ((hb6.block _ (cell_lt (blk2 Q5.out).1)).trans Q5.out)).1)).trans ((hb6.block _ (cell_lt (blk2 Q5.out).1)).trans Q5.out))
  have R7 := hidT (heap_new w6 (rb ep (.slice ax N cx)))
  have X7 := hidT (wrapsSince hw6 (oneB w6 (rb ep (.slice ax N cx))))
  clear hb6 F5 P5 Q5 hw6
  go_wp2_with fail
  generalize w6.alloc (.cells #[.int .i64 ep, .slice ax N cx] 32) = w7 at F7 P7 Q7 R7 X7 ⊢
  generalize w6.heap.size = pr at R7 ⊢
  refine (rekeyText_any ep X7.out F7.out.pow).mono ?_
  rintro e w8 ⟨rfl, hb8⟩
  have F8 := hidT (F7.out.since hb8)
  have P8 := hidT ((hb8.block _ (cell_lt (blk2 P7.out).1)).trans P7.out)
  have Q8 := hidT ((hb8.block _ (cell_lt (blk2 Q7.out).1)).trans Q7.out)
  have R8 := hidT ((hb8.block _ (cell_lt (blk2 R7.out).1)).trans R7.out)
  have X8 := hidT (wrapsSince X7.out hb8)
  clear hb8 F7 P7 Q7 R7 X7
  go_wp2_with fail
  refine (readRekey_any (rekText ep ws) _ F8.out.no (rekText_len2 ep ws)).mono ?_
  rintro e w9 ⟨y, rfl, hy9, hb9⟩
  obtain ⟨ep1, ws1, ok2, HX2⟩ : ∃ ep1 ws1 ok2, Hid (wholeRk (rekText ep ws) = (ep1, ws1, ok2)) := ⟨_, _, _, rfl⟩
  rw [HX2.out] at hy9 ⊢
  simp only at hy9
  obtain ⟨ay, cy, hy⟩ := wrapsRow hy9
  obtain ⟨N1, HLEN1⟩ : ∃ n, Hid (ws1.length = n) := ⟨_, rfl⟩
  rw [HLEN1.out] at hy
  subst hy
  have g9 := oneB w9 (rb ep1 (.slice ay N1 cy))
  have F10 := hidT ((F8.out.since hb9).since g9)
  have P10 := hidT ((g9.block _ (cell_lt (blk2 ((hb9.block _ (cell_lt (blk2 P8.out).1)).trans P8.out)).1)).trans ((hb9.block _ (cell_lt (blk2 P8.out).1)).trans P8.out))
  have Q10 := hidT ((g9.block _ (cell_lt (blk2 ((hb9.block _ (cell_lt (blk2 Q8.out).1)).trans Q8.out)).1)).trans ((hb9.block _ (cell_lt (blk2 Q8.out).1)).trans Q8.out))
  have R10 := hidT ((g9.block _ (cell_lt (blk2 ((hb9.block _ (cell_lt (blk2 R8.out).1)).trans R8.out)).1)).trans ((hb9.block _ (cell_lt (blk2 R8.out).1)).trans R8.out))
  have S10 := hidT (heap_new w9 (rb ep1 (.slice ay N1 cy)))
  have X10 := hidT (wrapsSince (wrapsSince X8.out hb9) g9)
  have Y10 := hidT (wrapsSince hy9 g9)
  clear g9 hb9 hy9 F8 P8 Q8 R8 X8
  go_upto_region 9 with fail
  generalize w9.alloc (.cells #[.int .i64 ep1, .slice ay N1 cy] 32) = w10 at F10 P10 Q10 R10 S10 X10 Y10 ⊢
  generalize w9.heap.size = pq at S10 ⊢
  obtain ⟨so, HSO⟩ : ∃ so, Hid (opText k m = so) := ⟨_, rfl⟩
  obtain ⟨sr, HSR⟩ : ∃ sr, Hid (rekText ep ws = sr) := ⟨_, rfl⟩
  rw [HSO.out, HSR.out]
  rw [HSO.out] at HX1
  rw [HSR.out] at HX2
  go_cut [79] from 41 to 78 (fun s79 wx => s79 = .bool false ∧ Hid (Ft w' a len wx))
  case first =>
    obtain ⟨c0, c1, _, _⟩ := blk2 P10.out
    go_wp2_with fail
    refine (specOpText_any k m _).mono ?_
    rintro e w11 ⟨rfl, hb11⟩
    rw [HSO.out]
    have F11 := hidT (F10.out.since hb11)
    have P11 := hidT ((hb11.block _ (cell_lt (blk2 P10.out).1)).trans P10.out)
    have Q11 := hidT ((hb11.block _ (cell_lt (blk2 Q10.out).1)).trans Q10.out)
    have R11 := hidT ((hb11.block _ (cell_lt (blk2 R10.out).1)).trans R10.out)
    have S11 := hidT ((hb11.block _ (cell_lt (blk2 S10.out).1)).trans S10.out)
    have X11 := hidT (wrapsSince X10.out hb11)
    have Y11 := hidT (wrapsSince Y10.out hb11)
    clear hb11 F10 P10 Q10 R10 S10 X10 Y10 c0 c1
    obtain ⟨c0, c1, _, _⟩ := blk2 P11.out
    obtain ⟨d0, d1, _, _⟩ := blk2 Q11.out
    obtain ⟨e0, e1, _, _⟩ := blk2 R11.out
    obtain ⟨hk, hs⟩ : (k1 = k ∧ m1 = m ∧ ok1 = true ∧ so.isEmpty = false ∨ ok1 = false ∧ so = []) ∧ True := by
      refine ⟨?_, trivial⟩
      cases hf : formB k m with
      | true =>
        have h4 := wholeOp_right hf
        rw [HSO.out, HX1.out] at h4
        obtain ⟨h5, h6⟩ := h4
        simp at h5
        obtain ⟨h1, h2, h3⟩ := h5
        exact .inl ⟨h1, h2, h3, by simpa using h6⟩
      | false =>
        have e := wholeOp_wrong hf
        rw [HSO.out] at e
        have h5 := HX1.out
        rw [e, wholeOp_nil] at h5
        simp at h5
        exact .inr ⟨h5.2.2, e⟩
    clear hs
    obtain ⟨hk2, hs⟩ : (ep1 = ep ∧ ws1 = ws ∧ ok2 = true ∧ sr.isEmpty = false ∨ ok2 = false ∧ sr = []) ∧ True := by
      refine ⟨?_, trivial⟩
      cases hf : rkB ep ws with
      | true =>
        have h4 := wholeRk_right hf
        rw [HSR.out, HX2.out] at h4
        obtain ⟨h5, h6⟩ := h4
        simp at h5
        obtain ⟨h1, h2, h3⟩ := h5
        exact .inl ⟨h1, h2, h3, by simpa using h6⟩
      | false =>
        have e := wholeRk_wrong hf
        rw [HSR.out] at e
        have h5 := HX2.out
        rw [e, wholeRk_nil] at h5
        simp at h5
        exact .inr ⟨h5.2.2, e⟩
    clear hs
    have HX1' := HX1
    have HX2' := HX2
    clear HX1 HX2
    have HK2 := hidT hk2
    clear hk2
    rcases hk with ⟨rfl, rfl, rfl, hne⟩ | ⟨rfl, rfl⟩
    all_goals go_wp2_with fail
    all_goals
      refine (specRekeyText_any ep X11.out).mono ?_
      rintro e w12 ⟨rfl, hb12⟩
      rw [HSR.out]
      have F12 := hidT (F11.out.since hb12)
      have R12 := hidT ((hb12.block _ (cell_lt (blk2 R11.out).1)).trans R11.out)
      have S12 := hidT ((hb12.block _ (cell_lt (blk2 S11.out).1)).trans S11.out)
      have X12 := hidT (wrapsSince X11.out hb12)
      have Y12 := hidT (wrapsSince Y11.out hb12)
      clear hb12 F11 P11 Q11 R11 S11 X11 Y11 c0 c1 d0 d1 e0 e1
      obtain ⟨e0, e1, _, _⟩ := blk2 R12.out
      obtain ⟨g0, g1, _, _⟩ := blk2 S12.out
      have hk2 := HK2.out
      clear HK2
      rcases hk2 with ⟨h1, h2, h3, hne2⟩ | ⟨h3, hnil2⟩
      · have HE := hidT h2
        have HL1 := hidT (show N1 = N by rw [← HLEN1.out, ← HLEN.out, h2])
        subst h1 h3
        go_wp2_with fail
        refine (sameRekey_same ep1 (by have := Y12.out; rw [HE.out] at this; exact this) X12.out).mono ?_
        rintro e w13 ⟨rfl, hb13⟩
        have F13 := hidT (F12.out.since hb13)
        clear hb13
        go_wp2_with fail
        go_meet
        exact ⟨rfl, F13⟩
      · subst h3 hnil2
        go_wp2_with fail
        go_meet
        exact ⟨rfl, F12⟩
  case rest =>
    obtain ⟨rfl, F10⟩ := hcut
    go_wp2_with fail
    refine (drawReadOp_any a len cap _ F10.out.by').mono ?_
    rintro e w11 ⟨la, rfl, hla, hb11⟩
    have F11 := hidT (F10.out.since hb11)
    clear hb11 F10
    go_wp2_with fail
    refine (readOp_any la _ F11.out.no F11.out.form hla).mono ?_
    rintro e w12 ⟨rfl, hb12⟩
    obtain ⟨k2, m2, ok3, HX3⟩ : ∃ k m ok, Hid (wholeOp la = (k, m, ok)) := ⟨_, _, _, rfl⟩
    rw [HX3.out]
    have F13 := hidT ((F11.out.since hb12).since (oneB w12 (opb k2 m2)))
    have P13 := hidT (heap_new w12 (opb k2 m2))
    clear hb12 F11
    go_wp2_with fail
    generalize w12.alloc (.cells #[.int .i64 k2, .int .i64 m2] 25) = w13 at F13 P13 ⊢
    generalize w12.heap.size = px at P13 ⊢
    refine (specReadOp_any la _ hla).mono ?_
    rintro e w14 ⟨rfl, hb14⟩
    rw [← bothRead, HX3.out]
    have g14 := oneB w14 (opb k2 m2)
    have F15 := hidT ((F13.out.since hb14).since g14)
    have P15 := hidT ((g14.block _ (cell_lt (blk2 ((hb14.block _ (cell_lt (blk2 P13.out).1)).trans P13.out)).1)).trans ((hb14.block _ (cell_lt (blk2 P13.out).1)).trans P13.out))
    clear hb14 g14 F13 P13
    go_wp2_with fail
    generalize w14.alloc (.cells #[.int .i64 k2, .int .i64 m2] 25) = w15 at F15 P15 ⊢
    generalize w14.heap.size = pz
    refine (drawReadRekey_any a len cap _ F15.out.by').mono ?_
    rintro e w16 ⟨lb, rfl, hlb, hb16⟩
    have F16 := hidT (F15.out.since hb16)
    have P16 := hidT ((hb16.block _ (cell_lt (blk2 P15.out).1)).trans P15.out)
    clear hb16 F15 P15
    go_wp2_with fail
    refine (readRekey_any lb _ F16.out.no hlb).mono ?_
    rintro e w17 ⟨z, rfl, hz17, hb17⟩
    obtain ⟨ep3, ws3, ok4, HX4⟩ : ∃ ep ws ok, Hid (wholeRk lb = (ep, ws, ok)) := ⟨_, _, _, rfl⟩
    rw [HX4.out] at hz17 ⊢
    simp only at hz17
    obtain ⟨az, cz, hz⟩ := wrapsRow hz17
    obtain ⟨N3, HLEN3⟩ : ∃ n, Hid (ws3.length = n) := ⟨_, rfl⟩
    rw [HLEN3.out] at hz
    subst hz
    have g17 := oneB w17 (rb ep3 (.slice az N3 cz))
    have F18 := hidT ((F16.out.since hb17).since g17)
    have P18 := hidT ((g17.block _ (cell_lt (blk2 ((hb17.block _ (cell_lt (blk2 P16.out).1)).trans P16.out)).1)).trans ((hb17.block _ (cell_lt (blk2 P16.out).1)).trans P16.out))
    have Q18 := hidT (heap_new w17 (rb ep3 (.slice az N3 cz)))
    have X18 := hidT (wrapsSince hz17 g17)
    clear hb17 g17 F16 P16 hz17
    go_wp2_with fail
    generalize w17.alloc (.cells #[.int .i64 ep3, .slice az N3 cz] 32) = w18 at F18 P18 Q18 X18 ⊢
    generalize w17.heap.size = py at Q18 ⊢
    refine (specReadRekey_any lb _ hlb).mono ?_
    rintro e w19 ⟨u, rfl, hu19, hb19⟩
    rw [← bothRk, HX4.out] at hu19 ⊢
    simp only at hu19
    obtain ⟨au, cu, hu⟩ := wrapsRow hu19
    rw [HLEN3.out] at hu
    subst hu
    have g19 := oneB w19 (rb ep3 (.slice au N3 cu))
    have F20 := hidT ((F18.out.since hb19).since g19)
    have P20 := hidT ((g19.block _ (cell_lt (blk2 ((hb19.block _ (cell_lt (blk2 P18.out).1)).trans P18.out)).1)).trans ((hb19.block _ (cell_lt (blk2 P18.out).1)).trans P18.out))
    have Q20 := hidT ((g19.block _ (cell_lt (blk2 ((hb19.block _ (cell_lt (blk2 Q18.out).1)).trans Q18.out)).1)).trans ((hb19.block _ (cell_lt (blk2 Q18.out).1)).trans Q18.out))
    have X20 := hidT (wrapsSince (wrapsSince X18.out hb19) g19)
    clear hb19 g19 F18 P18 Q18 X18 hu19
    go_upto_region 17 with fail
    generalize w19.alloc (.cells #[.int .i64 ep3, .slice au N3 cu] 32) = w20 at F20 P20 Q20 X20 ⊢
    generalize w19.heap.size = pw
    obtain ⟨c0, c1, _, _⟩ := blk2 P20.out
    cases ok3 with
    | false =>
      cases ok4 with
      | false =>
        go_wp2
        go_ret
        exact ⟨rfl, F20.out.bel⟩
      | true =>
        have HW := hidT (show rekText ep3 ws3 = lb by have h := wholeRk_is HX4.out; rw [rekText, if_pos h.1, ← h.2])
        obtain ⟨d0, d1, _, _⟩ := blk2 Q20.out
        go_wp2_with fail
        refine (rekeyText_any ep3 X20.out F20.out.pow).mono ?_
        rintro e w22 ⟨rfl, hb22⟩
        rw [HW.out]
        have F22 := hidT (F20.out.since hb22)
        clear hb22
        go_wp2
        go_ret
        exact ⟨rfl, F22.out.bel⟩
    | true =>
      have HV := hidT (show opText k2 m2 = la by have h := wholeOp_is HX3.out; rw [opText, if_pos h.1, ← h.2])
      go_wp2_with fail
      refine (opText_any k2 m2 _ F20.out.form).mono ?_
      rintro e w21 ⟨rfl, hb21⟩
      rw [HV.out]
      have F21 := hidT (F20.out.since hb21)
      have Q21 := hidT ((hb21.block _ (cell_lt (blk2 Q20.out).1)).trans Q20.out)
      have X21 := hidT (wrapsSince X20.out hb21)
      clear hb21 F20 Q20 X20 c0 c1
      obtain ⟨d0, d1, _, _⟩ := blk2 Q21.out
      cases ok4 with
      | false =>
        go_wp2
        go_ret
        exact ⟨rfl, F21.out.bel⟩
      | true =>
        have HW := hidT (show rekText ep3 ws3 = lb by have h := wholeRk_is HX4.out; rw [rekText, if_pos h.1, ← h.2])
        go_wp2_with fail
        refine (rekeyText_any ep3 X21.out F21.out.pow).mono ?_
        rintro e w22 ⟨rfl, hb22⟩
        rw [HW.out]
        have F22 := hidT (F21.out.since hb22)
        clear hb22
        go_wp2
        go_ret
        exact ⟨rfl, F22.out.bel⟩
end Tx
end Go.Proofs.YtapmgbnhobpahaaGreatDoor
/- What the listed package variables hold, read off the rows' condition: the two errors of the package, and the table of the powers of ten. -/
namespace Go.Proofs.YtapmgbnhobpahaaGreatDoor
open Go.RowKit Go.ChangeShapes Go.WideShapes
namespace Tx

theorem star : "*" ++ "errors.errorString" = "*errors.errorString" := by decide
theorem rowES (u : TypeId) (h : Tryz.prog.typeName? 3 u = some "*errors.errorString") : u = 149 :=
  typeName_ptr_named (nm := "errors.errorString") (by rw [star]; kernel_rfl) (by kernel_rfl) (by decide) u (by rw [star]; exact h)
theorem cellsES : Tryz.prog.cellsOf 165 = 1 := by kernel_rfl
theorem cellsStr : Tryz.prog.cellsOf 9 = 1 := by kernel_rfl
theorem gFormT : (Tryz.prog.globals[0]?).map (·.type) = some 74 := by kernel_rfl
theorem gNoTextT : (Tryz.prog.globals[1]?).map (·.type) = some 74 := by kernel_rfl
/-- A listed error, at the head of the list. -/
theorem laidErr {n : String} {text : List UInt8} {r : List (String × DataW Unit)} {W : World} {g : Nat} (h : laidMet Tryz.prog ((n, .iface "*errors.errorString" (.ptr (.agg [.lit (.string text)]))) :: r) W)
    (hg : Tryz.prog.globalNamed n = some g) (ht : (Tryz.prog.globals[g]?).map (·.type) = some 74) : ∃ a, W.var? Tryz.prog n = some #[.iface 149 (.pointer (some a))] := by
  obtain ⟨a, s, hv, _⟩ := laid_sentinel h hg ht Tryz.underlying74 rowES Tryz.underlying149 Tryz.underlying165 rfl rfl Tryz.underlying9 cellsES cellsStr
  exact ⟨a, hv⟩
/-- Behind a call that makes memory alone a package variable holds what it held. -/
theorem varSince {n : String} {g : Nat} {W W' : World} {cs : Array Value} (hg : Tryz.prog.globalNamed n = some g) (hb : Below W.heap.size W W') (h : W.var? Tryz.prog n = some cs) : W'.var? Tryz.prog n = some cs := by
  unfold World.var? at h ⊢
  simp only [hg, Option.bind_some] at h ⊢
  have hlt : g < W.heap.size := by
    rcases Nat.lt_or_ge g W.heap.size with h' | h'
    · exact h'
    · simp [Array.getElem?_eq_none h'] at h
  rw [hb.block g hlt]
  exact h
theorem gPowT : (Tryz.prog.globals[2]?).map (·.type) = some 137 := by kernel_rfl
theorem laidPow {r : List (String × DataW Unit)} {W : World} (h : laidMet Tryz.prog ((powName, Rows.laid_internal_strconv_uint64pow10) :: r) W) : HasPow W :=
  Lib.tabIs_of_head gPow gPowT Tryz.underlying137 Tryz.underlying99 (by kernel_rfl) (by kernel_rfl) (show laidMet Tryz.prog ((powName, Lib.tabData .u64 Lib.pow10Tab) :: r) W from h)
end Tx
end Go.Proofs.YtapmgbnhobpahaaGreatDoor
