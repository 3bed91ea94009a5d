
/- The walk of the exact law of KeyAhead: it answers true at every two keys, and nothing that lay there turns. -/
import Derived.Test.YtplinjepeahahabKa
import Derived.Deep.RegionHeld3
namespace Go.Proofs.Ytplinjepeahahab
open Go.RowKit
abbrev lkb (n v : Int) : Obj := .cells #[.int .i64 n, .int .i64 v] 64

theorem toKey_any (a b : Int) (w : World) :
    Calls Try.prog 36 #[kv a b] w fun e w' => e = .returned (kv a b) ∧ w' = ((w.alloc (lkb a b)).alloc (kb a b)).alloc (kb a b) := by
  go_enter Try.func36, Try.ntmps36
  go_wp2
  exact bodyPost_ret (v := kv a b) (by simp [results, Try.results36, go_sem]) rfl ⟨rfl, rfl⟩
theorem toKey_below (a b : Int) (w : World) :
    Calls Try.prog 36 #[kv a b] w fun e w' => e = .returned (kv a b) ∧ Below w.heap.size w w' :=
  (toKey_any a b w).mono fun _ _ h => ⟨h.1, by rw [h.2]; exact (((Below.refl _ _).alloc (Nat.le_refl _) _).alloc (by simp) _).alloc (by simp; omega) _⟩
theorem specAhead_below (a0 a1 b0 b1 : Int) (w : World) :
    Calls Try.prog 53 #[kv a0 a1, kv b0 b1] w fun e w' => e = .returned (.bool (aheadB a0 a1 b0 b1)) ∧ Below w.heap.size w w' :=
  (specAhead_any a0 a1 b0 b1 w).mono fun _ _ h => ⟨h.1, by rw [h.2]; exact ((Below.refl _ _).alloc (Nat.le_refl _) _).alloc (by simp) _⟩
theorem keyAhead_below (a0 a1 b0 b1 : Int) (w : World) :
    Calls Try.prog 55 #[kv a0 a1, kv b0 b1] w fun e w' => e = .returned (.bool (aheadB a0 a1 b0 b1)) ∧ Below w.heap.size w w' :=
  (keyAhead_any a0 a1 b0 b1 w).mono fun _ _ h => ⟨h.1, by rw [h.2]; exact ((((Below.refl _ _).alloc (Nat.le_refl _) _).alloc (by simp) _).alloc (by simp; omega) _).alloc (by simp; omega) _⟩

/-- Two boxes of two cells each, from block n on, and nothing turned below them. -/
def Two (n : Nat) (w : World) (a0 a1 b0 b1 : Int) (W : World) : Prop :=
  W.cell? ⟨n, 0, none⟩ = some (.int .i64 a0) ∧ W.cell? ⟨n, 1, none⟩ = some (.int .i64 a1) ∧ W.cell? ⟨n + 1, 0, none⟩ = some (.int .i64 b0) ∧ W.cell? ⟨n + 1, 1, none⟩ = some (.int .i64 b1) ∧ Below n w W ∧ n + 2 ≤ W.heap.size
theorem Two.later {n : Nat} {w W W' : World} {a0 a1 b0 b1 : Int} (h : Two n w a0 a1 b0 b1 W) (hb : Below W.heap.size W W') : Two n w a0 a1 b0 b1 W' := by
  obtain ⟨h1, h2, h3, h4, h5, h6⟩ := h
  exact ⟨(hb.cell (p := ⟨n, 0, none⟩) (by simp; omega)).trans h1, (hb.cell (p := ⟨n, 1, none⟩) (by simp; omega)).trans h2, (hb.cell (p := ⟨n + 1, 0, none⟩) (by simp; omega)).trans h3, (hb.cell (p := ⟨n + 1, 1, none⟩) (by simp; omega)).trans h4, h5.trans (hb.mono (by omega)), by have := hb.size; omega⟩
theorem Two.drew {n : Nat} {w W : World} {a0 a1 b0 b1 : Int} (h : Two n w a0 a1 b0 b1 W) : Two n w a0 a1 b0 b1 W.drew := h.later (Below.refl _ _).drew

end Go.Proofs.Ytplinjepeahahab
