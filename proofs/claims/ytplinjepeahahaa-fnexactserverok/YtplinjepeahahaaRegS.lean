
/- A region that draws its order, walked once in the order of the text, where what is known of the world (S) is kept by every callee: for any program. -/
import Derived.Deep.QuietTactic
import Derived.BigQuiet
import Derived.Below
namespace Go.Proofs.Ytplinjepeahahaa
open Go.RowKit

/-- A world of which S is known. -/
def SW (S : World → Prop) : Type := { W : World // S W }
def SW.w {S : World → Prop} (s : SW S) : World := s.1
theorem SW.is {S : World → Prop} (s : SW S) : S s.w := s.2
theorem SW.of {S : World → Prop} {W : World} (h : S W) : ∃ s : SW S, W = s.w := ⟨⟨W, h⟩, rfl⟩

theorem SW.some {S : World → Prop} {W : World} (h : S W) : Nonempty (SW S) := ⟨⟨W, h⟩⟩

/-- Two cells hold these values, and nothing has turned since w. -/
def Cs2 (w : World) (p1 : Addr) (v1 : Value) (p2 : Addr) (v2 : Value) (W : World) : Prop := W.cell? p1 = some v1 ∧ W.cell? p2 = some v2 ∧ Below w.heap.size w W
/-- Four cells hold these values, and nothing has turned since w. -/
def Cs4 (w : World) (p1 : Addr) (v1 : Value) (p2 : Addr) (v2 : Value) (p3 : Addr) (v3 : Value) (p4 : Addr) (v4 : Value) (W : World) : Prop := W.cell? p1 = some v1 ∧ W.cell? p2 = some v2 ∧ W.cell? p3 = some v3 ∧ W.cell? p4 = some v4 ∧ Below w.heap.size w W
theorem cell_since {W W' : World} {p : Addr} {v : Value} (h : W.cell? p = some v) (hb : Below W.heap.size W W') : W'.cell? p = some v := (hb.cell (World.block_lt_of_cell? W p h)).trans h
theorem Cs2.later {w W W' : World} {p1 p2 : Addr} {v1 v2 : Value} (h : Cs2 w p1 v1 p2 v2 W) (hb : Below W.heap.size W W') : Cs2 w p1 v1 p2 v2 W' :=
  ⟨cell_since h.1 hb, cell_since h.2.1 hb, h.2.2.trans (hb.mono h.2.2.size)⟩
theorem Cs4.later {w W W' : World} {p1 p2 p3 p4 : Addr} {v1 v2 v3 v4 : Value} (h : Cs4 w p1 v1 p2 v2 p3 v3 p4 v4 W) (hb : Below W.heap.size W W') : Cs4 w p1 v1 p2 v2 p3 v3 p4 v4 W' :=
  ⟨cell_since h.1 hb, cell_since h.2.1 hb, cell_since h.2.2.1 hb, cell_since h.2.2.2.1 hb, h.2.2.2.2.trans (hb.mono h.2.2.2.2.size)⟩

theorem wp_region_S (S : World → Prop) {P : Program} {id : Nat} {Q : Exit → Act → World → Prop} {a : Act} {w : World} {l : List Oper} (hm : P.follows .mixedOrders = true) (hB : Region.lexB .any l.toArray = true) (hS : S w.drew)
    (h : wpQuiet P l.toArray (fun w' => ∃ s : SW S, w' = s.w) (fun a' => ∀ w', (∃ s : SW S, w' = s.w) → Q .normal a' w') l a) : (Code.region id l.toArray true).wp P Q a w :=
  wp_region_quiet (C := fun w' => ∃ s : SW S, w' = s.w) hm hB (SW.of hS) (by simpa using h)
end Go.Proofs.Ytplinjepeahahaa
