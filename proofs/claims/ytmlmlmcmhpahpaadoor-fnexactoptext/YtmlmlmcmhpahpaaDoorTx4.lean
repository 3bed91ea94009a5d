
/- OpText of the program; the exact law of OpText. -/
import Derived.Test.YtmlmlmcmhpahpaaDoorTx3
namespace Go.Proofs.YtmlmlmcmhpahpaaDoor
open Go.RowKit
namespace Tx

set_option maxRecDepth 100000 in
theorem opText_any (k m : Int) (w : World) (hE : HasForm w) :
    Calls Tryd.prog 9 #[kv k m] w fun e w' => e = .returned (.string ⟨(opText k m).toArray⟩) ∧ Below w.heap.size w w' := by
  have hE1 := hidT (hE.since (oneB w (opb k m)))
  clear hE
  cases hF : formB k m with
  | false =>
    have HT := hidT (show opText k m = [] by simp [opText, hF])
    go_enter Tryd.func9, Tryd.ntmps9
    go_wp2_with fail
    refine (opOk_any _ _ _ hE1.out).mono ?_
    rintro e w1 ⟨rfl, hb⟩
    rw [hF]
    have HB := hidT ((oneB _ _).trans (hb.mono (by simp)))
    clear hb
    go_wp2
    go_ret
    exact ⟨by rw [HT.out]; rfl, HB.out⟩
  | true =>
    by_cases h1 : k = 1
    · subst h1
      have hm : 1 ≤ m ∧ m ≤ 20 := by simpa [formB] using hF
      obtain ⟨n, rfl⟩ : ∃ n : Nat, m = (n : Int) := ⟨m.toNat, by omega⟩
      have HT := hidT (show opText 1 (n : Int) = [106, 111, 105, 110, 32] ++ Lib.decDigits n by simp [opText, hF, opT])
      have hl := dec_len19 (u := n) (by omega)
      have ha := fun w => run_string_add_lists (P := Tryd.prog) w [106, 111, 105, 110, 32] (Lib.decDigits n) (by simp) (by omega)
      go_enter Tryd.func9, Tryd.ntmps9
      go_wp2_with fail
      refine (opOk_any _ _ _ hE1.out).mono ?_
      rintro e w1 ⟨rfl, hb⟩
      rw [hF]
      have hc0 : w1.cell? ⟨w.heap.size, 0, none⟩ = some (.int .i64 1) := ((bcell hb).1 _ 0 (by simp)).trans (by simp)
      have hc1 : w1.cell? ⟨w.heap.size, 1, none⟩ = some (.int .i64 (n : Int)) := ((bcell hb).1 _ 1 (by simp)).trans (by simp)
      have HB := hidT ((oneB _ _).trans (hb.mono (by simp)))
      clear hb
      go_wp2_with (go_at_call 25; refine (decimal_smallB n (by omega) _).mono ?_; rintro e w2 ⟨rfl, hb2⟩)
      go_ret
      exact ⟨by rw [HT.out]; rfl, HB.out.trans (hb2.mono HB.out.size)⟩
    by_cases h2 : k = 2
    · subst h2
      have hm : 1 ≤ m ∧ m ≤ 20 := by simpa [formB] using hF
      obtain ⟨n, rfl⟩ : ∃ n : Nat, m = (n : Int) := ⟨m.toNat, by omega⟩
      have HT := hidT (show opText 2 (n : Int) = [108, 101, 97, 118, 101, 32] ++ Lib.decDigits n by simp [opText, hF, opT])
      have hl := dec_len19 (u := n) (by omega)
      have ha := fun w => run_string_add_lists (P := Tryd.prog) w [108, 101, 97, 118, 101, 32] (Lib.decDigits n) (by simp) (by omega)
      go_enter Tryd.func9, Tryd.ntmps9
      go_wp2_with fail
      refine (opOk_any _ _ _ hE1.out).mono ?_
      rintro e w1 ⟨rfl, hb⟩
      rw [hF]
      have hc0 : w1.cell? ⟨w.heap.size, 0, none⟩ = some (.int .i64 2) := ((bcell hb).1 _ 0 (by simp)).trans (by simp)
      have hc1 : w1.cell? ⟨w.heap.size, 1, none⟩ = some (.int .i64 (n : Int)) := ((bcell hb).1 _ 1 (by simp)).trans (by simp)
      have HB := hidT ((oneB _ _).trans (hb.mono (by simp)))
      clear hb
      go_wp2_with (go_at_call 25; refine (decimal_smallB n (by omega) _).mono ?_; rintro e w2 ⟨rfl, hb2⟩)
      go_ret
      exact ⟨by rw [HT.out]; rfl, HB.out.trans (hb2.mono HB.out.size)⟩
    have h3 : k = 3 ∧ m = 0 := by simpa [formB, h1, h2] using hF
    obtain ⟨rfl, rfl⟩ := h3
    have HT := hidT (show opText 3 0 = [114, 101, 102, 114, 101, 115, 104] by simp [opText, hF, opT])
    go_enter Tryd.func9, Tryd.ntmps9
    go_wp2_with fail
    refine (opOk_any _ _ _ hE1.out).mono ?_
    rintro e w1 ⟨rfl, hb⟩
    rw [hF]
    have hc0 : w1.cell? ⟨w.heap.size, 0, none⟩ = some (.int .i64 3) := ((bcell hb).1 _ 0 (by simp)).trans (by simp)
    have HB := hidT ((oneB _ _).trans (hb.mono (by simp)))
    clear hb
    go_wp2
    go_ret
    exact ⟨by rw [HT.out]; rfl, HB.out⟩

theorem cells2 {w w' : World} {b : Nat} {x y : Value} (hb : Below w.heap.size w w') (h : b < w.heap.size) (h0 : w.cell? ⟨b, 0, none⟩ = some x) (h1 : w.cell? ⟨b, 1, none⟩ = some y) : w'.cell? ⟨b, 0, none⟩ = some x ∧ w'.cell? ⟨b, 1, none⟩ = some y :=
  ⟨((bcell hb).1 _ 0 h).trans h0, ((bcell hb).1 _ 1 h).trans h1⟩
theorem exOpText_any (k m : Int) (w : World) (hE : HasForm w) :
    Calls Tryd.prog 3 #[kv k m] w fun e w' => e = .returned (.bool true) ∧ Below w.heap.size w w' := by
  have HE := hidT hE
  clear hE
  go_enter Tryd.func3, Tryd.ntmps3
  go_wp2_with fail
  refine (toOp_any _ _ _).mono ?_
  rintro e w1 ⟨rfl, hb1⟩
  obtain ⟨c0, c1⟩ := cells2 (b := w.heap.size) hb1 (by simp) (by simp; rfl) (by simp; rfl)
  have HB := hidT ((oneB _ _).trans (hb1.mono (by simp)))
  have hs : w.heap.size < w1.heap.size := by have := hb1.size; simp at this; omega
  clear hb1
  go_wp2_with fail
  refine (specOpText_any _ _ _).mono ?_
  rintro e w2 ⟨rfl, hb2⟩
  obtain ⟨c0, c1⟩ := cells2 (b := w.heap.size) hb2 hs c0 c1
  have HB := hidT (HB.out.trans (hb2.mono HB.out.size))
  have hs := Nat.lt_of_lt_of_le hs hb2.size
  clear hb2
  go_wp2_with fail
  refine (toOp_any _ _ _).mono ?_
  rintro e w3 ⟨rfl, hb3⟩
  have HB := hidT (HB.out.trans (hb3.mono HB.out.size))
  clear hb3
  go_wp2_with fail
  refine (opText_any _ _ _ (HE.out.since HB.out)).mono ?_
  rintro e w4 ⟨rfl, hb4⟩
  have HB := hidT (HB.out.trans (hb4.mono HB.out.size))
  clear hb4
  go_wp2
  go_ret
  exact ⟨rfl, HB.out⟩
end Tx
end Go.Proofs.YtmlmlmcmhpahpaaDoor
