
/- The walk of the exact law of WorldNew. -/
import Derived.Test.YtplinjepeahahabWN1
namespace Go.Proofs.Ytplinjepeahahab
open Go.RowKit

set_option maxRecDepth 100000 in
set_option maxHeartbeats 2000000 in
theorem exWorldNew_any (w : World) : Calls Try.prog 4 #[] w fun e w' => e = .returned (.bool true) ∧ Below w.heap.size w w' := by
  have hn15 : (List.replicate 15 (1 : Int)).length = 15 := by simp
  go_enter Try.func4, Try.ntmps4
  go_wp2_with fail
  refine (specWorldNew_any _).mono ?_
  rintro e w1 ⟨a1, c1, rfl, s1, b1⟩
  have hB2 := one_below w1 (wlb 0 (.slice a1 15 c1) (.slice none 0 0) (.slice none 0 0) (.slice none 0 0))
  obtain ⟨p0, p1, p2, p3, p4⟩ := wcell5 w1 0 (.slice a1 15 c1) (.slice none 0 0) (.slice none 0 0) (.slice none 0 0) 44
  have B2 := hidOf' (more b1 hB2)
  have S2 := hidOf' (s1.since hB2)
  have AS : Hid (∀ j, (Value.slice a1 15 c1).ownBlock = some j → j < w1.heap.size) := fun j e => (s1.1.lt j e).2
  have hs2 : (w1.alloc (wlb 0 (.slice a1 15 c1) (.slice none 0 0) (.slice none 0 0) (.slice none 0 0))).heap.size = w1.heap.size + 1 := by simp
  have hs01 := b1.size
  clear s1 b1 hB2
  go_wp2_with fail
  generalize w1.alloc (wlb 0 (.slice a1 15 c1) (.slice none 0 0) (.slice none 0 0) (.slice none 0 0)) = w2 at *
  refine (worldNew_any _).mono ?_
  rintro e w3 ⟨a3, c3, rfl, s3, b3⟩
  have hB4 := one_below w3 (wlb 0 (.slice a3 15 c3) (.slice none 0 0) (.slice none 0 0) (.slice none 0 0))
  obtain ⟨q0, q1, q2, q3, q4⟩ := wcell5 w3 0 (.slice a3 15 c3) (.slice none 0 0) (.slice none 0 0) (.slice none 0 0) 44
  have AG : Hid (∀ j, (Value.slice a3 15 c3).ownBlock = some j → w2.heap.size ≤ j ∧ j < w3.heap.size) := fun j e => s3.1.lt j e
  have B4 := hidOf' (more (more B2.out b3) hB4)
  have S4 := hidOf' ((S2.out.since b3).since hB4)
  have G4 := hidOf' (s3.since hB4)
  have p0 := cell_since p0 b3
  have p1 := cell_since p1 b3
  have p2 := cell_since p2 b3
  have p3 := cell_since p3 b3
  have p4 := cell_since p4 b3
  have p0 := cell_since p0 hB4
  have p1 := cell_since p1 hB4
  have p2 := cell_since p2 hB4
  have p3 := cell_since p3 hB4
  have p4 := cell_since p4 hB4
  have hs4 : (w3.alloc (wlb 0 (.slice a3 15 c3) (.slice none 0 0) (.slice none 0 0) (.slice none 0 0))).heap.size = w3.heap.size + 1 := by simp
  have hs23 := b3.size
  clear s3 b3 hB4 B2 S2
  go_wp2_with fail
  generalize w3.alloc (wlb 0 (.slice a3 15 c3) (.slice none 0 0) (.slice none 0 0) (.slice none 0 0)) = w4 at *
  refine (eqWorldNew_any G4.out.1 S4.out.1).mono ?_
  rintro e w5 ⟨rfl, b5⟩
  have B5 := hidOf' (more B4.out b5)
  have S5 := hidOf' (S4.out.since b5)
  have G5 := hidOf' (G4.out.since b5)
  have p0 := cell_since p0 b5
  have p1 := cell_since p1 b5
  have p2 := cell_since p2 b5
  have p3 := cell_since p3 b5
  have p4 := cell_since p4 b5
  have q0 := cell_since q0 b5
  have q1 := cell_since q1 b5
  have q2 := cell_since q2 b5
  have q3 := cell_since q3 b5
  have q4 := cell_since q4 b5
  clear b5 B4 S4 G4
  go_wp2_with fail
  refine (markWorldNew_any 1 G5.out (by omega) (by rw [hn15]; simp)).mono ?_
  rw [hn15]
  rintro e w6 ⟨rfl, m6, g6⟩
  have B6 := hidOf' (B5.out.grown g6 B5.out.size (fun j e => by have := (AG.out j e).1; omega))
  have S6i := S5.out.1.kept g6 (fun j e e' => by have := (AG.out j e).1; have := AS.out j e'; omega)
  have S6 := hidOf' (show SrvIs w.heap.size (.slice a1 15 c1) (.slice none 0 0) (List.replicate 15 1) [] w6 from ⟨S6i, nil_seats _ _, fun k _ e => by cases e⟩)
  have M6 := hidOf' m6
  have p0 := g6.cell p0 (fun e => by have := AG.out _ e.symm; dsimp only at this; omega)
  have p1 := g6.cell p1 (fun e => by have := AG.out _ e.symm; dsimp only at this; omega)
  have p2 := g6.cell p2 (fun e => by have := AG.out _ e.symm; dsimp only at this; omega)
  have p3 := g6.cell p3 (fun e => by have := AG.out _ e.symm; dsimp only at this; omega)
  have p4 := g6.cell p4 (fun e => by have := AG.out _ e.symm; dsimp only at this; omega)
  have q0 := g6.cell q0 (fun e => by have := AG.out _ e.symm; dsimp only at this; omega)
  have q1 := g6.cell q1 (fun e => by have := AG.out _ e.symm; dsimp only at this; omega)
  have q2 := g6.cell q2 (fun e => by have := AG.out _ e.symm; dsimp only at this; omega)
  have q3 := g6.cell q3 (fun e => by have := AG.out _ e.symm; dsimp only at this; omega)
  have q4 := g6.cell q4 (fun e => by have := AG.out _ e.symm; dsimp only at this; omega)
  clear B5 S5 G5 m6 g6 S6i
  go_wp2_with fail
  refine (heldWorldNew_any 1 15 M6.out (by omega) (by omega)).mono ?_
  rintro e w7 ⟨rfl, b7⟩
  have B7 := hidOf' (more B6.out b7)
  have S7 := hidOf' (S6.out.since b7)
  have M7 := hidOf' (M6.out.since b7)
  have p0 := cell_since p0 b7
  have p1 := cell_since p1 b7
  have p2 := cell_since p2 b7
  have p3 := cell_since p3 b7
  have p4 := cell_since p4 b7
  have q0 := cell_since q0 b7
  have q1 := cell_since q1 b7
  have q2 := cell_since q2 b7
  have q3 := cell_since q3 b7
  have q4 := cell_since q4 b7
  clear b7 B6 S6 M6
  go_wp2_with fail
  refine (worldNew_any _).mono ?_
  rintro e w8 ⟨a8, c8, rfl, s8, b8⟩
  have hB9 := one_below w8 (wlb 0 (.slice a8 15 c8) (.slice none 0 0) (.slice none 0 0) (.slice none 0 0))
  obtain ⟨u0, u1, u2, u3, u4⟩ := wcell5 w8 0 (.slice a8 15 c8) (.slice none 0 0) (.slice none 0 0) (.slice none 0 0) 44
  have B9 := hidOf' (more (more B7.out b8) hB9)
  have S9 := hidOf' ((S7.out.since b8).since hB9)
  have M9 := hidOf' ((M7.out.since b8).since hB9)
  have H9 := hidOf' (s8.since hB9)
  have p0 := cell_since p0 b8
  have p1 := cell_since p1 b8
  have p2 := cell_since p2 b8
  have p3 := cell_since p3 b8
  have p4 := cell_since p4 b8
  have q0 := cell_since q0 b8
  have q1 := cell_since q1 b8
  have q2 := cell_since q2 b8
  have q3 := cell_since q3 b8
  have q4 := cell_since q4 b8
  have p0 := cell_since p0 hB9
  have p1 := cell_since p1 hB9
  have p2 := cell_since p2 hB9
  have p3 := cell_since p3 hB9
  have p4 := cell_since p4 hB9
  have q0 := cell_since q0 hB9
  have q1 := cell_since q1 hB9
  have q2 := cell_since q2 hB9
  have q3 := cell_since q3 hB9
  have q4 := cell_since q4 hB9
  clear s8 b8 hB9 B7 S7 M7
  go_wp2_with fail
  generalize w8.alloc (wlb 0 (.slice a8 15 c8) (.slice none 0 0) (.slice none 0 0) (.slice none 0 0)) = w9 at *
  refine (eqWorldNew_any H9.out.1 S9.out.1).mono ?_
  rintro e w10 ⟨rfl, b10⟩
  have B10 := hidOf' (more B9.out b10)
  have M10 := hidOf' (M9.out.since b10)
  have q0 := cell_since q0 b10
  have q1 := cell_since q1 b10
  have q2 := cell_since q2 b10
  have q3 := cell_since q3 b10
  have q4 := cell_since q4 b10
  clear b10 B9 S9 M9 H9 u0 u1 u2 u3 u4 p0 p1 p2 p3 p4
  go_wp2_with fail
  refine (heldWorldNew_any 1 15 M10.out (by omega) (by omega)).mono ?_
  rintro e w11 ⟨rfl, b11⟩
  have B11 := hidOf' (more B10.out b11)
  clear b11 B10 M10
  go_wp2
  go_ret
  exact ⟨rfl, B11.out⟩
end Go.Proofs.Ytplinjepeahahab
