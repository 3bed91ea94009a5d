
/- Keys and wraps that a call keeps; how many keys there are. -/
import Derived.Test.YtkkjpkldfllfiaaLBoth
namespace Go.Proofs.Ytkkjpkldfllfiaa
open Go.RowKit

/-- Keys and wraps lie as they lay, and nothing has turned since w. -/
def KwT (B C : Nat) (kx wx : Value) (ks : List K2) (ws : List W4) (w W : World) : Prop := Keys B kx ks W ∧ Wraps C wx ws W ∧ Below w.heap.size w W
theorem KwT.later {B C : Nat} {kx wx : Value} {ks : List K2} {ws : List W4} {w W W' : World} (h : KwT B C kx wx ks ws w W) (hb : Below W.heap.size W W') : KwT B C kx wx ks ws w W' :=
  ⟨h.1.below hb (fun k e => (h.1.lt k e).2), h.2.1.below hb (fun k e => (h.2.1.lt k e).2), h.2.2.trans (hb.mono h.2.2.size)⟩
theorem keepKw {B C : Nat} {kx wx : Value} {ks : List K2} {ws : List W4} {w W W' : World} {p1 p2 : Addr} {v1 v2 : Value} (h : W.cell? p1 = some v1 ∧ W.cell? p2 = some v2 ∧ KwT B C kx wx ks ws w W) (hb : Below W.heap.size W W') :
    W'.cell? p1 = some v1 ∧ W'.cell? p2 = some v2 ∧ KwT B C kx wx ks ws w W' := ⟨cell_since h.1 hb, cell_since h.2.1 hb, h.2.2.later hb⟩
theorem Keys.len_le {B : Nat} {v : Value} {ks : List K2} {W : World} (h : Keys B v ks W) : ks.length ≤ maxLen := by
  rcases h.form with ⟨_, rfl⟩ | ⟨g, cap, _, _, _, h1, h2, _⟩
  · exact Nat.zero_le _
  · omega

end Go.Proofs.Ytkkjpkldfllfiaa
