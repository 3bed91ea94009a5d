
/- ReadRekey of the program. -/
import Derived.Test.YtmlmlmcmhpahpaaDoorTr5
import Derived.Test.YtmlmlmcmhpahpaaDoorTu
namespace Go.Proofs.YtmlmlmcmhpahpaaDoor
open Go.RowKit Go.Shelf
namespace Tx

set_option maxRecDepth 100000 in
theorem readRekey_any (l : List UInt8) (w : World) (hN : HasNo w) (hl : l.length ≤ 1048576) :
    Calls Tryd.prog 19 #[st l] w fun e w' => ∃ x, e = .returned (.tuple #[rv (wholeRk l).1 x, .bool (wholeRk l).2.2]) ∧ Wraps w.heap.size x (wholeRk l).2.1 w' ∧ Below w.heap.size w w' := by
  have hmf : ∀ (fn : Fn) (first cap : Array Value) (w : World), (Instr.makeFunc fn first cap).run Tryd.prog w = .ok (.func fn first cap) w := fun _ _ _ _ => rfl
  have B0 := hidT ((oneB w (rb 0 (.slice none 0 0))).alloc (by simp) (.cells #[.string ⟨l.toArray⟩] 54))
  have P0 := hidT (show ((w.alloc (rb 0 (.slice none 0 0))).alloc (.cells #[.string ⟨l.toArray⟩] 54)).heap[w.heap.size]? = some (rb 0 (.slice none 0 0)) from (heap_old _ _ (by simp)).trans (heap_new _ _))
  have R0 : Hid (Rdr (w.heap.size + 1) l ((w.alloc (rb 0 (.slice none 0 0))).alloc (.cells #[.string ⟨l.toArray⟩] 54))) := by
    have := heap_new (w.alloc (rb 0 (.slice none 0 0))) (.cells #[.string ⟨l.toArray⟩] 54)
    rw [World.size_alloc] at this
    exact this
  obtain ⟨t, v, hc⟩ := hN.since B0.out
  obtain ⟨t2, v2, hc2⟩ := hN
  have l2 := cell_lt hc2
  simp only at l2
  have HN : Hid (NoText (w.heap.size + 1) (.iface t v) ((w.alloc (rb 0 (.slice none 0 0))).alloc (.cells #[.string ⟨l.toArray⟩] 54))) := ⟨hc, ⟨_, _, rfl⟩, by omega⟩
  clear hc hc2
  go_enter Tryd.func19, Tryd.ntmps19
  go_wp2_with fail
  refine (wholeRk_any (w.heap.size + 1) (.iface t v) l _ R0.out HN.out hl).mono ?_
  rintro e w1 ⟨x, rfl, X1, g1⟩
  have B1 := hidT (B0.out.grown g1 B0.out.size (fun j e => by cases e; omega))
  have P1 := hidT ((g1.block _ (cell_lt (blk2 P0.out).1) (by simp)).trans P0.out)
  clear g1
  have X1 := hidT (wraps_low X1 (show w.heap.size ≤ _ by simp; omega))
  obtain ⟨d0, d1, z0, z1⟩ := blk2 P1.out
  obtain ⟨k, ws, ok, HX⟩ : ∃ k ws ok, Hid (wholeRk l = (k, ws, ok)) := ⟨_, _, _, rfl⟩
  rw [HX.out] at X1 ⊢
  obtain ⟨ax, cx, hx⟩ := wrapsRow X1.out
  obtain ⟨n, HLEN⟩ : ∃ n, Hid (ws.length = n) := ⟨_, rfl⟩
  simp only [HLEN.out] at hx
  subst hx
  have HT := hidT (set2 (.int .i64 k) (.slice ax n cx) P1.out)
  have B5 := hidT (B1.out.grown HT.out.2 B1.out.size (fun j e => by cases e; exact Nat.le_refl _))
  have P5 := hidT HT.out.1
  have X5 := hidT (wrapsKept X1.out HT.out.2 (fun k e => by cases e; exact wraps_ne X1.out P1.out (by decide)))
  clear HT
  go_wp2
  generalize ((w1.setCell ⟨w.heap.size, 0, none⟩ (.int .i64 k)).setCell ⟨w.heap.size, 1, none⟩ (.slice ax n cx)) = w5 at B5 P5 X5 ⊢
  obtain ⟨e0, e1, _, _⟩ := blk2 P5.out
  exact bodyPost_ret (v := .tuple #[rv k (.slice ax n cx), .bool ok]) (by simp [results, Tryd.results19, go_sem, e0, e1]) rfl ⟨.slice ax n cx, by rw [HX.out], by rw [HX.out]; exact X5.out, B5.out⟩
end Tx
end Go.Proofs.YtmlmlmcmhpahpaaDoor
