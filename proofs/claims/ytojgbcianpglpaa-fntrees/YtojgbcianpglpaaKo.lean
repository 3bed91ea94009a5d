
/- The code of a drawn law: bytes, and the test of its length. -/
import Derived.Test.YtojgbcianpglpaaRd
import Derived.Deep.RegionHeld3
namespace Go.Proofs.Ytojgbcianpglpaa
open Go.RowKit

/-- The bytes that are drawn from: they lie below B. -/
def Bytes (B : Nat) (a : Option Addr) (len : Nat) (W : World) : Prop :=
  len ≤ maxLen ∧ ∀ i, i < len → ∃ b off x, a = some ⟨b, off, none⟩ ∧ b < B ∧ W.cell? ⟨b, off + i, none⟩ = some (.int .u8 x) ∧ 0 ≤ x ∧ x ≤ 255
theorem Bytes.kept {B len : Nat} {a : Option Addr} {W W' : World} (h : Bytes B a len W) (hb : Below B W W') : Bytes B a len W' :=
  ⟨h.1, fun i hi => by
    obtain ⟨b, off, x, e, hB, hc, hx⟩ := h.2 i hi
    exact ⟨b, off, x, e, hB, (hb.cell (p := ⟨b, off + i, none⟩) hB).trans hc, hx⟩⟩
theorem Bytes.rd {B len : Nat} {a : Option Addr} {W : World} (h : Bytes B a len W) (hB : B ≤ W.heap.size) (cap : Nat) : Rd B W.heap.size (W.alloc (.cells #[.slice a len cap, .int .i64 0] 53)) := by
  refine ⟨a, len, cap, 0, Nat.zero_le _, h.1, hB, blk_new _ _, fun i hi => ?_⟩
  obtain ⟨b, off, x, e, hb, hc, hx⟩ := h.2 i hi
  exact ⟨b, off, x, e, hb, (World.grownBy_alloc W _ none).cell hc (by simp), hx⟩

theorem big_any (a : Option Addr) (len cap : Nat) (W : World) :
    Calls Try.prog 9 #[.slice a len cap] W fun e W' => e = .returned (.bool (decide ((1048576 : Int) < (len : Int)))) ∧ W' = W := by
  go_enter Try.func9, Try.ntmps9
  go_wp2
  go_ret
  exact ⟨by simp, rfl⟩

end Go.Proofs.Ytojgbcianpglpaa
