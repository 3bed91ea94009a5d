
/- Four keys turned round in place: slices.Reverse. -/
import Derived.Test.YtplinjepeahahaaKF1
import Derived.BigRegion
import Derived.RegionTactic
import Derived.ChangeAlike
namespace Go.Proofs.Ytplinjepeahahaa
open Go.RowKit

theorem Keys.cells4 {B g cap : Nat} {ks : List (Int × Int)} {W : World} (h : Keys B (.slice (some ⟨g, 0, none⟩) 4 cap) ks W) : KSeg g 0 ks W ∧ ∀ o, W.frozen? ⟨g, o, none⟩ = false := by
  rcases h.form with ⟨e, _⟩ | ⟨g', cap', e, _, _, _, _, h3, h4⟩
  · cases e
  · injection e with e
    injection e with e
    injection e with e
    subst e
    exact ⟨h3, h4⟩
theorem four_cells {B g cap : Nat} {a b c d : Int × Int} {W : World} (h : Keys B (.slice (some ⟨g, 0, none⟩) 4 cap) [a, b, c, d] W) :
    (W.cell? ⟨g, 0, none⟩ = some (.int .i64 a.1) ∧ W.cell? ⟨g, 1, none⟩ = some (.int .i64 a.2)) ∧ (W.cell? ⟨g, 2, none⟩ = some (.int .i64 b.1) ∧ W.cell? ⟨g, 3, none⟩ = some (.int .i64 b.2)) ∧ (W.cell? ⟨g, 4, none⟩ = some (.int .i64 c.1) ∧ W.cell? ⟨g, 5, none⟩ = some (.int .i64 c.2)) ∧ (W.cell? ⟨g, 6, none⟩ = some (.int .i64 d.1) ∧ W.cell? ⟨g, 7, none⟩ = some (.int .i64 d.2)) := by
  obtain ⟨hs, _⟩ := h.cells4
  have h0 := hs 0 (by simp)
  have h1 := hs 1 (by simp)
  have h2 := hs 2 (by simp)
  have h3 := hs 3 (by simp)
  exact ⟨h0, h1, h2, h3⟩

set_option maxRecDepth 100000 in
set_option maxHeartbeats 4000000 in
theorem reverse4_any {B g cap : Nat} {a b c d : Int × Int} {w : World} (h : Keys B (.slice (some ⟨g, 0, none⟩) 4 cap) [a, b, c, d] w) :
    Calls Try.prog 55 #[.slice (some ⟨g, 0, none⟩) 4 cap] w fun e w' => e = .returned (.tuple #[]) ∧ Keys B (.slice (some ⟨g, 0, none⟩) 4 cap) [d, c, b, a] w' ∧ w.grownBy w' (some g) := by
  obtain ⟨a1, a2⟩ := a
  obtain ⟨b1, b2⟩ := b
  obtain ⟨c1, c2⟩ := c
  obtain ⟨d1, d2⟩ := d
  obtain ⟨⟨t0, t1⟩, ⟨t2, t3⟩, ⟨t4, t5⟩, ⟨t6, t7⟩⟩ := four_cells h
  obtain ⟨_, hf⟩ := h.cells4
  have f0 := hf 0
  have f1 := hf 1
  have f6 := hf 6
  have f7 := hf 7
  obtain ⟨S1, G1⟩ := h.stored rfl 0 (by simp) d1 d2
  obtain ⟨S2, G2⟩ := S1.stored rfl 3 (by simp) a1 a2
  have HS : Hid (Keys B (.slice (some ⟨g, 0, none⟩) 4 cap) [(d1, d2), (b1, b2), (c1, c2), (a1, a2)] ((((w.setCell ⟨g, 0, none⟩ (.int .i64 d1)).setCell ⟨g, 1, none⟩ (.int .i64 d2)).setCell ⟨g, 6, none⟩ (.int .i64 a1)).setCell ⟨g, 7, none⟩ (.int .i64 a2))) := S2
  have HG : Hid (w.grownBy ((((w.setCell ⟨g, 0, none⟩ (.int .i64 d1)).setCell ⟨g, 1, none⟩ (.int .i64 d2)).setCell ⟨g, 6, none⟩ (.int .i64 a1)).setCell ⟨g, 7, none⟩ (.int .i64 a2)) (some g)) := G1.trans G2
  clear S1 S2 G1 G2 hf h
  simp only at t0 t1 t2 t3 t4 t5 t6 t7
  go_enter Try.func55, Try.ntmps55
  go_wp2
  refine wp_loop_rounds 3 ?_
  rw [rounds_succ]
  go_wp2
  go_region
  go_wp2
  have hS := HS.out
  have hG := HG.out
  clear HS HG t0 t1 t2 t3 t4 t5 t6 t7 f0 f1 f6 f7
  have hS1 : Keys B (.slice (some ⟨g, 0, none⟩) 4 cap) [(d1, d2), (b1, b2), (c1, c2), (a1, a2)] ((((w.setCell ⟨g, 0, none⟩ (.int .i64 d1)).setCell ⟨g, 1, none⟩ (.int .i64 d2)).setCell ⟨g, 6, none⟩ (.int .i64 a1)).setCell ⟨g, 7, none⟩ (.int .i64 a2)).drew := hS
  have hG1 : w.grownBy ((((w.setCell ⟨g, 0, none⟩ (.int .i64 d1)).setCell ⟨g, 1, none⟩ (.int .i64 d2)).setCell ⟨g, 6, none⟩ (.int .i64 a1)).setCell ⟨g, 7, none⟩ (.int .i64 a2)).drew (some g) := hG.trans ⟨rfl, rfl, rfl, Nat.le_refl _, fun _ _ _ => rfl⟩
  generalize ((((w.setCell ⟨g, 0, none⟩ (.int .i64 d1)).setCell ⟨g, 1, none⟩ (.int .i64 d2)).setCell ⟨g, 6, none⟩ (.int .i64 a1)).setCell ⟨g, 7, none⟩ (.int .i64 a2)).drew = w1 at *
  clear hS hG
  obtain ⟨⟨t0, t1⟩, ⟨t2, t3⟩, ⟨t4, t5⟩, ⟨t6, t7⟩⟩ := four_cells hS1
  obtain ⟨_, hf⟩ := hS1.cells4
  have f2 := hf 2
  have f3 := hf 3
  have f4 := hf 4
  have f5 := hf 5
  obtain ⟨S1, G1⟩ := hS1.stored rfl 1 (by simp) c1 c2
  obtain ⟨S2, G2⟩ := S1.stored rfl 2 (by simp) b1 b2
  have HS : Hid (Keys B (.slice (some ⟨g, 0, none⟩) 4 cap) [(d1, d2), (c1, c2), (b1, b2), (a1, a2)] ((((w1.setCell ⟨g, 2, none⟩ (.int .i64 c1)).setCell ⟨g, 3, none⟩ (.int .i64 c2)).setCell ⟨g, 4, none⟩ (.int .i64 b1)).setCell ⟨g, 5, none⟩ (.int .i64 b2))) := S2
  have HG : Hid (w.grownBy ((((w1.setCell ⟨g, 2, none⟩ (.int .i64 c1)).setCell ⟨g, 3, none⟩ (.int .i64 c2)).setCell ⟨g, 4, none⟩ (.int .i64 b1)).setCell ⟨g, 5, none⟩ (.int .i64 b2)) (some g)) := hG1.trans (G1.trans G2)
  clear S1 S2 G1 G2 hf hS1 hG1
  simp only at t0 t1 t2 t3 t4 t5 t6 t7
  rw [rounds_succ]
  go_wp2
  go_region
  go_wp2
  have hS := HS.out
  have hG := HG.out
  clear HS HG t0 t1 t2 t3 t4 t5 t6 t7 f2 f3 f4 f5
  have hS1 : Keys B (.slice (some ⟨g, 0, none⟩) 4 cap) [(d1, d2), (c1, c2), (b1, b2), (a1, a2)] ((((w1.setCell ⟨g, 2, none⟩ (.int .i64 c1)).setCell ⟨g, 3, none⟩ (.int .i64 c2)).setCell ⟨g, 4, none⟩ (.int .i64 b1)).setCell ⟨g, 5, none⟩ (.int .i64 b2)).drew := hS
  have hG1 : w.grownBy ((((w1.setCell ⟨g, 2, none⟩ (.int .i64 c1)).setCell ⟨g, 3, none⟩ (.int .i64 c2)).setCell ⟨g, 4, none⟩ (.int .i64 b1)).setCell ⟨g, 5, none⟩ (.int .i64 b2)).drew (some g) := hG.trans ⟨rfl, rfl, rfl, Nat.le_refl _, fun _ _ _ => rfl⟩
  generalize ((((w1.setCell ⟨g, 2, none⟩ (.int .i64 c1)).setCell ⟨g, 3, none⟩ (.int .i64 c2)).setCell ⟨g, 4, none⟩ (.int .i64 b1)).setCell ⟨g, 5, none⟩ (.int .i64 b2)).drew = w2 at *
  clear hS hG
  rw [rounds_succ]
  go_wp2
  go_end0
  exact ⟨rfl, hS1, hG1⟩
end Go.Proofs.Ytplinjepeahahaa
