
/- KeyAt of the program and of the model. -/
import Derived.Test.YtplinjepeahahaaSrv5a
namespace Go.Proofs.Ytplinjepeahahaa
open Go.RowKit

set_option maxHeartbeats 1000000 in
theorem specKeyAt_any {B C : Nat} {x y : Value} {vs : List Int} {ss : List (Int × Int)} {w : World} (ep node : Int) (hx : Ints B x vs w) (hy : Seats C y ss w) :
    Calls Try.prog 18 #[svv ep x y, .int .i64 node] w fun e w' => e = .returned (.tuple #[kv (atK ep vs ss node).1 (atK ep vs ss node).2, .bool (atB ep vs ss node)]) ∧ Below w.heap.size w w' := by
  obtain ⟨c0, c1, c2⟩ := scell3 w ep x y
  have d0 := cell_since c0 (one_below _ (kb 0 0))
  have d1 := cell_since c1 (one_below _ (kb 0 0))
  have d2 := cell_since c2 (one_below _ (kb 0 0))
  have hB2 := two_below w (svb ep x y) (kb 0 0)
  have hX := hx.since hB2
  have hY := hy.since hB2
  have bR : ((w.alloc (svb ep x y)).alloc (kb 0 0)).heap[w.heap.size + 1]? = some (kb 0 0) := by
    have := heap_alloc_new (w.alloc (svb ep x y)) (kb 0 0)
    simpa using this
  have hs0 : ((w.alloc (svb ep x y)).alloc (kb 0 0)).heap.size = w.heap.size + 1 + 1 := by simp
  clear c0 c1 c2 hx hy
  go_enter Try.func18, Try.ntmps18
  go_wp2_with fail
  generalize (w.alloc (svb ep x y)).alloc (kb 0 0) = w1 at d0 d1 d2 hB2 hX hY bR hs0 ⊢
  refine (specServerOk_any ep hX hY).mono ?_
  rintro e w2 ⟨rfl, b2⟩
  have e0 := cell_since d0 b2
  have e1 := cell_since d1 b2
  have e2 := cell_since d2 b2
  have hX2 := hX.since b2
  have hB3 := more hB2 b2
  have bR2 := (b2.block (w.heap.size + 1) (by omega)).trans bR
  have hsz := b2.size
  obtain ⟨r0, r1, f0, f1⟩ : w2.cell? ⟨w.heap.size + 1, 0, none⟩ = some (.int .i64 0) ∧ w2.cell? ⟨w.heap.size + 1, 1, none⟩ = some (.int .i64 0) ∧ w2.frozen? ⟨w.heap.size + 1, 0, none⟩ = false ∧ w2.frozen? ⟨w.heap.size + 1, 1, none⟩ = false := by
    simp [World.cell?, World.frozen?, bR2]
  clear d0 d1 d2 hB2 hX hY bR b2
  have HB : Hid (Below w.heap.size w ((w2.setCell ⟨w.heap.size + 1, 0, none⟩ (.int .i64 0)).setCell ⟨w.heap.size + 1, 1, none⟩ (.int .i64 0))) := (hB3.setCell (by simp) _).setCell (by simp) _
  have HF : Hid (((w2.setCell ⟨w.heap.size + 1, 0, none⟩ (.int .i64 0)).setCell ⟨w.heap.size + 1, 1, none⟩ (.int .i64 0)).heap[w.heap.size + 1]? = some (kb 0 0)) := by show _ = _; simp [World.setCell, Array.getElem?_modify, bR2]
  cases hok : serverB ep vs ss with
  | false =>
    have HG : Hid (atK ep vs ss node = (0, 0) ∧ atB ep vs ss node = false) := by show atK ep vs ss node = (0, 0) ∧ atB ep vs ss node = false; simp [atK, atB, hok]
    go_wp2
    have bF := HF.out
    have gB := HB.out
    have gG := HG.out
    clear HF HB HG
    generalize (w2.setCell ⟨w.heap.size + 1, 0, none⟩ (.int .i64 0)).setCell ⟨w.heap.size + 1, 1, none⟩ (.int .i64 0) = WF at bF gB ⊢
    obtain ⟨z0, z1⟩ : WF.cell? ⟨w.heap.size + 1, 0, none⟩ = some (.int .i64 0) ∧ WF.cell? ⟨w.heap.size + 1, 1, none⟩ = some (.int .i64 0) := by simp [World.cell?, bF]
    exact bodyPost_ret (v := .tuple #[kv 0 0, .bool false]) (by simp [results, Try.results18, go_sem, z0, z1]) rfl ⟨by rw [gG.1, gG.2], gB⟩
  | true =>
    go_wp2_with fail
    refine (l1InK_any _ _ _ _).mono ?_
    rintro e w' ⟨rfl, hww⟩
    subst w'
    cases hin : decide (1 ≤ node ∧ node ≤ 15) with
    | false =>
      have HG : Hid (atK ep vs ss node = (0, 0) ∧ atB ep vs ss node = false) := by show atK ep vs ss node = (0, 0) ∧ atB ep vs ss node = false; simp [atK, atB, hin]
      go_wp2
      have bF := HF.out
      have gB := HB.out
      have gG := HG.out
      clear HF HB HG
      generalize (w2.setCell ⟨w.heap.size + 1, 0, none⟩ (.int .i64 0)).setCell ⟨w.heap.size + 1, 1, none⟩ (.int .i64 0) = WF at bF gB ⊢
      obtain ⟨z0, z1⟩ : WF.cell? ⟨w.heap.size + 1, 0, none⟩ = some (.int .i64 0) ∧ WF.cell? ⟨w.heap.size + 1, 1, none⟩ = some (.int .i64 0) := by simp [World.cell?, bF]
      exact bodyPost_ret (v := .tuple #[kv 0 0, .bool false]) (by simp [results, Try.results18, go_sem, z0, z1]) rfl ⟨by rw [gG.1, gG.2], gB⟩
    | true =>
      have hnn := of_decide_eq_true hin
      obtain ⟨j, rfl⟩ : ∃ j : Nat, node = (j : Int) + 1 := ⟨(node - 1).toNat, by omega⟩
      have hj : j < 15 := by omega
      have hvl : vs.length = 15 := serverB_len hok
      have HG : Hid (atK ep vs ss ((j : Int) + 1) = ((j : Int) + 1, vAt vs j) ∧ atB ep vs ss ((j : Int) + 1) = true) := by
        show atK ep vs ss ((j : Int) + 1) = ((j : Int) + 1, vAt vs j) ∧ atB ep vs ss ((j : Int) + 1) = true
        have e : ((j : Int) + 1 - 1).toNat = j := by omega
        simp only [atK, atB, hok, hin, e, Bool.and_true, if_true, and_self]
      clear HB HF hnn
      go_wp2_with fail
      refine (l3Key_any ep j hj hvl hX2).mono ?_
      rintro e w3 ⟨rfl, b3⟩
      have hB4 := more hB3 b3
      have bR3 := (b3.block (w.heap.size + 1) (by omega)).trans bR2
      obtain ⟨r0, r1, f0, f1⟩ : w3.cell? ⟨w.heap.size + 1, 0, none⟩ = some (.int .i64 0) ∧ w3.cell? ⟨w.heap.size + 1, 1, none⟩ = some (.int .i64 0) ∧ w3.frozen? ⟨w.heap.size + 1, 0, none⟩ = false ∧ w3.frozen? ⟨w.heap.size + 1, 1, none⟩ = false := by
        simp [World.cell?, World.frozen?, bR3]
      obtain ⟨Y, hyy⟩ : ∃ Y, vAt vs j = Y := ⟨_, rfl⟩
      rw [hyy] at HG ⊢
      have HB : Hid (Below w.heap.size w ((w3.setCell ⟨w.heap.size + 1, 0, none⟩ (.int .i64 ((j : Int) + 1))).setCell ⟨w.heap.size + 1, 1, none⟩ (.int .i64 Y))) := (hB4.setCell (by simp) _).setCell (by simp) _
      have HF : Hid (((w3.setCell ⟨w.heap.size + 1, 0, none⟩ (.int .i64 ((j : Int) + 1))).setCell ⟨w.heap.size + 1, 1, none⟩ (.int .i64 Y)).heap[w.heap.size + 1]? = some (kb ((j : Int) + 1) Y)) := by show _ = _; simp [World.setCell, Array.getElem?_modify, bR3]
      clear e0 e1 e2 hX2 hB3 bR2 hB4 bR3 b3 hyy
      go_wp2
      have bF := HF.out
      have gB := HB.out
      have gG := HG.out
      clear HF HB HG
      generalize (w3.setCell ⟨w.heap.size + 1, 0, none⟩ (.int .i64 ((j : Int) + 1))).setCell ⟨w.heap.size + 1, 1, none⟩ (.int .i64 Y) = WF at bF gB ⊢
      obtain ⟨z0, z1⟩ : WF.cell? ⟨w.heap.size + 1, 0, none⟩ = some (.int .i64 ((j : Int) + 1)) ∧ WF.cell? ⟨w.heap.size + 1, 1, none⟩ = some (.int .i64 Y) := by simp [World.cell?, bF]
      exact bodyPost_ret (v := .tuple #[kv ((j : Int) + 1) Y, .bool true]) (by simp [results, Try.results18, go_sem, z0, z1]) rfl ⟨by rw [gG.1, gG.2], gB⟩

set_option maxHeartbeats 1000000 in
theorem implKeyAt_any {B C : Nat} {x y : Value} {vs : List Int} {ss : List (Int × Int)} {w : World} (ep node : Int) (hx : Ints B x vs w) (hy : Seats C y ss w) :
    Calls Try.prog 19 #[svv ep x y, .int .i64 node] w fun e w' => e = .returned (.tuple #[kv (atK ep vs ss node).1 (atK ep vs ss node).2, .bool (atB ep vs ss node)]) ∧ Below w.heap.size w w' := by
  obtain ⟨c0, c1, c2⟩ := scell3 w ep x y
  have d0 := cell_since c0 (one_below _ (kb 0 0))
  have d1 := cell_since c1 (one_below _ (kb 0 0))
  have d2 := cell_since c2 (one_below _ (kb 0 0))
  have hB2 := two_below w (svb ep x y) (kb 0 0)
  have hX := hx.since hB2
  have hY := hy.since hB2
  have bR : ((w.alloc (svb ep x y)).alloc (kb 0 0)).heap[w.heap.size + 1]? = some (kb 0 0) := by
    have := heap_alloc_new (w.alloc (svb ep x y)) (kb 0 0)
    simpa using this
  have hs0 : ((w.alloc (svb ep x y)).alloc (kb 0 0)).heap.size = w.heap.size + 1 + 1 := by simp
  clear c0 c1 c2 hx hy
  go_enter Try.func19, Try.ntmps19
  go_wp2_with fail
  generalize (w.alloc (svb ep x y)).alloc (kb 0 0) = w1 at d0 d1 d2 hB2 hX hY bR hs0 ⊢
  refine (serverOk_any ep hX hY).mono ?_
  rintro e w2 ⟨rfl, b2⟩
  have e0 := cell_since d0 b2
  have e1 := cell_since d1 b2
  have e2 := cell_since d2 b2
  have hX2 := hX.since b2
  have hB3 := more hB2 b2
  have bR2 := (b2.block (w.heap.size + 1) (by omega)).trans bR
  have hsz := b2.size
  obtain ⟨r0, r1, f0, f1⟩ : w2.cell? ⟨w.heap.size + 1, 0, none⟩ = some (.int .i64 0) ∧ w2.cell? ⟨w.heap.size + 1, 1, none⟩ = some (.int .i64 0) ∧ w2.frozen? ⟨w.heap.size + 1, 0, none⟩ = false ∧ w2.frozen? ⟨w.heap.size + 1, 1, none⟩ = false := by
    simp [World.cell?, World.frozen?, bR2]
  clear d0 d1 d2 hB2 hX hY bR b2
  have HB : Hid (Below w.heap.size w ((w2.setCell ⟨w.heap.size + 1, 0, none⟩ (.int .i64 0)).setCell ⟨w.heap.size + 1, 1, none⟩ (.int .i64 0))) := (hB3.setCell (by simp) _).setCell (by simp) _
  have HF : Hid (((w2.setCell ⟨w.heap.size + 1, 0, none⟩ (.int .i64 0)).setCell ⟨w.heap.size + 1, 1, none⟩ (.int .i64 0)).heap[w.heap.size + 1]? = some (kb 0 0)) := by show _ = _; simp [World.setCell, Array.getElem?_modify, bR2]
  cases hok : serverB ep vs ss with
  | false =>
    have HG : Hid (atK ep vs ss node = (0, 0) ∧ atB ep vs ss node = false) := by show atK ep vs ss node = (0, 0) ∧ atB ep vs ss node = false; simp [atK, atB, hok]
    go_wp2
    have bF := HF.out
    have gB := HB.out
    have gG := HG.out
    clear HF HB HG
    generalize (w2.setCell ⟨w.heap.size + 1, 0, none⟩ (.int .i64 0)).setCell ⟨w.heap.size + 1, 1, none⟩ (.int .i64 0) = WF at bF gB ⊢
    obtain ⟨z0, z1⟩ : WF.cell? ⟨w.heap.size + 1, 0, none⟩ = some (.int .i64 0) ∧ WF.cell? ⟨w.heap.size + 1, 1, none⟩ = some (.int .i64 0) := by simp [World.cell?, bF]
    exact bodyPost_ret (v := .tuple #[kv 0 0, .bool false]) (by simp [results, Try.results19, go_sem, z0, z1]) rfl ⟨by rw [gG.1, gG.2], gB⟩
  | true =>
    go_wp2_with fail
    refine (isNodeK_any _ _).mono ?_
    rintro e w' ⟨rfl, hww⟩
    subst w'
    cases hin : decide (1 ≤ node ∧ node ≤ 15) with
    | false =>
      have HG : Hid (atK ep vs ss node = (0, 0) ∧ atB ep vs ss node = false) := by show atK ep vs ss node = (0, 0) ∧ atB ep vs ss node = false; simp [atK, atB, hin]
      go_wp2
      have bF := HF.out
      have gB := HB.out
      have gG := HG.out
      clear HF HB HG
      generalize (w2.setCell ⟨w.heap.size + 1, 0, none⟩ (.int .i64 0)).setCell ⟨w.heap.size + 1, 1, none⟩ (.int .i64 0) = WF at bF gB ⊢
      obtain ⟨z0, z1⟩ : WF.cell? ⟨w.heap.size + 1, 0, none⟩ = some (.int .i64 0) ∧ WF.cell? ⟨w.heap.size + 1, 1, none⟩ = some (.int .i64 0) := by simp [World.cell?, bF]
      exact bodyPost_ret (v := .tuple #[kv 0 0, .bool false]) (by simp [results, Try.results19, go_sem, z0, z1]) rfl ⟨by rw [gG.1, gG.2], gB⟩
    | true =>
      have hnn := of_decide_eq_true hin
      obtain ⟨j, rfl⟩ : ∃ j : Nat, node = (j : Int) + 1 := ⟨(node - 1).toNat, by omega⟩
      have hj : j < 15 := by omega
      have hvl : vs.length = 15 := serverB_len hok
      have HG : Hid (atK ep vs ss ((j : Int) + 1) = ((j : Int) + 1, vAt vs j) ∧ atB ep vs ss ((j : Int) + 1) = true) := by
        show atK ep vs ss ((j : Int) + 1) = ((j : Int) + 1, vAt vs j) ∧ atB ep vs ss ((j : Int) + 1) = true
        have e : ((j : Int) + 1 - 1).toNat = j := by omega
        simp only [atK, atB, hok, hin, e, Bool.and_true, if_true, and_self]
      clear HB HF hnn
      go_wp2_with fail
      refine (keyAt_any ep j hj hvl hX2).mono ?_
      rintro e w3 ⟨rfl, b3⟩
      have hB4 := more hB3 b3
      have bR3 := (b3.block (w.heap.size + 1) (by omega)).trans bR2
      obtain ⟨r0, r1, f0, f1⟩ : w3.cell? ⟨w.heap.size + 1, 0, none⟩ = some (.int .i64 0) ∧ w3.cell? ⟨w.heap.size + 1, 1, none⟩ = some (.int .i64 0) ∧ w3.frozen? ⟨w.heap.size + 1, 0, none⟩ = false ∧ w3.frozen? ⟨w.heap.size + 1, 1, none⟩ = false := by
        simp [World.cell?, World.frozen?, bR3]
      obtain ⟨Y, hyy⟩ : ∃ Y, vAt vs j = Y := ⟨_, rfl⟩
      rw [hyy] at HG ⊢
      have HB : Hid (Below w.heap.size w ((w3.setCell ⟨w.heap.size + 1, 0, none⟩ (.int .i64 ((j : Int) + 1))).setCell ⟨w.heap.size + 1, 1, none⟩ (.int .i64 Y))) := (hB4.setCell (by simp) _).setCell (by simp) _
      have HF : Hid (((w3.setCell ⟨w.heap.size + 1, 0, none⟩ (.int .i64 ((j : Int) + 1))).setCell ⟨w.heap.size + 1, 1, none⟩ (.int .i64 Y)).heap[w.heap.size + 1]? = some (kb ((j : Int) + 1) Y)) := by show _ = _; simp [World.setCell, Array.getElem?_modify, bR3]
      clear e0 e1 e2 hX2 hB3 bR2 hB4 bR3 b3 hyy
      go_wp2
      have bF := HF.out
      have gB := HB.out
      have gG := HG.out
      clear HF HB HG
      generalize (w3.setCell ⟨w.heap.size + 1, 0, none⟩ (.int .i64 ((j : Int) + 1))).setCell ⟨w.heap.size + 1, 1, none⟩ (.int .i64 Y) = WF at bF gB ⊢
      obtain ⟨z0, z1⟩ : WF.cell? ⟨w.heap.size + 1, 0, none⟩ = some (.int .i64 ((j : Int) + 1)) ∧ WF.cell? ⟨w.heap.size + 1, 1, none⟩ = some (.int .i64 Y) := by simp [World.cell?, bF]
      exact bodyPost_ret (v := .tuple #[kv ((j : Int) + 1) Y, .bool true]) (by simp [results, Try.results19, go_sem, z0, z1]) rfl ⟨by rw [gG.1, gG.2], gB⟩

end Go.Proofs.Ytplinjepeahahaa
