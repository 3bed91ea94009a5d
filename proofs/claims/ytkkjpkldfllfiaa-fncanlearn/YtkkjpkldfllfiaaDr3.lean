
/- What DrawCanLearn draws. -/
import Derived.Test.YtkkjpkldfllfiaaDr2
namespace Go.Proofs.Ytkkjpkldfllfiaa
open Go.RowKit

set_option maxRecDepth 100000 in
set_option maxHeartbeats 1000000 in
theorem drawCanLearn_any (a : Option Addr) (len cap : Nat) (W : World) (h : Bytes W.heap.size a len W) :
    Calls Try.prog 19 #[.slice a len cap] W fun e W' => ∃ vk ks vw ws x y, e = .returned (.tuple #[vk, vw, kv x y]) ∧ Drawn W.heap.size vk ks vw ws W' ∧ Below W.heap.size W W' := by
  have hBk : Bytes (W.alloc (kb 0 0)).heap.size a len (W.alloc (kb 0 0)) := by
    have h' := h.kept ((Below.refl W.heap.size W).alloc (Nat.le_refl _) (kb 0 0))
    exact ⟨h'.1, fun i hi => by obtain ⟨b, off, x, e, hb, hc⟩ := h'.2 i hi; exact ⟨b, off, x, e, by simp; omega, hc⟩⟩
  have bR0 := blk_new W (kb 0 0)
  have hs0 : (W.alloc (kb 0 0)).heap.size = W.heap.size + 1 := by simp
  have hG0 : W.grownBy (W.alloc (kb 0 0)) none := World.grownBy_alloc _ _ _
  go_enter Try.func19, Try.ntmps19
  go_wp2_with fail
  generalize W.alloc (kb 0 0) = W0 at hBk bR0 hs0 hG0 ⊢
  have HS0 := hidOf hs0
  clear hs0
  refine (l1Open_any _ _ _ _).mono ?_
  rintro e w1 ⟨rfl, hw1⟩
  have hR : Rd W0.heap.size W0.heap.size w1 := by rw [hw1]; exact hBk.rd (Nat.le_refl _) cap
  have hG1 : W0.grownBy w1 none := by rw [hw1]; exact World.grownBy_alloc _ _ _
  have hlt := hR.lt
  clear hw1
  go_wp2_with fail
  refine (known_any W0.heap.size W0.heap.size 4 _ hR (by omega)).mono ?_
  rintro e w2 ⟨vk, ks, rfl, k2, l2, hR2, g2⟩
  have hG2 : W0.grownBy w2 none := hG1.andThen g2 (fun j e => by cases e; exact .inl (Nat.le_refl _))
  go_wp2_with fail
  refine (wraps_any W0.heap.size W0.heap.size 9 _ hR2 (by omega)).mono ?_
  rintro e w3 ⟨vw, ws, rfl, k3, l3, hR3, g3⟩
  have hG3 : W0.grownBy w3 none := hG2.andThen g3 (fun j e => by cases e; exact .inl (Nat.le_refl _))
  have k2' := k2.kept g3 (fun k e e' => by cases e; have := (k2.lt _ e').1; omega)
  have hs2 := hG2.size
  have hs1 := hG1.size
  have hs12 := g2.size
  go_wp2_with fail
  refine (key_any W0.heap.size W0.heap.size _ hR3).mono ?_
  rintro e w4 ⟨x, y, _, _, _, rfl, hR4, g4⟩
  have hG4 : W0.grownBy w4 none := hG3.andThen g4 (fun j e => by cases e; exact .inl (Nat.le_refl _))
  have k2'' := (k2'.kept g4 (fun k e e' => by cases e; have := (k2.lt _ e').1; omega)).mono hs1
  have k3' := (k3.kept g4 (fun k e e' => by cases e; have := (k3.lt _ e').1; omega)).mono hs2
  have hs0 := HS0.out
  have hlx := k2''.lt
  have hly := k3'.lt
  have bR4 : w4.heap[W.heap.size]? = some (kb 0 0) := (hG4.block _ (by omega) (by simp)).trans bR0
  have gP := grown_put2 w4 W.heap.size (.int .i64 x) (.int .i64 y)
  have HD : Hid (Drawn W.heap.size vk ks vw ws ((w4.setCell ⟨W.heap.size, 0, none⟩ (.int .i64 x)).setCell ⟨W.heap.size, 1, none⟩ (.int .i64 y))) :=
    ⟨(k2''.kept gP (fun k e e' => by cases e; have := (hlx _ e').1; omega)).mono (by omega), (k3'.kept gP (fun k e e' => by cases e; have := (hly _ e').1; omega)).mono (by omega), l2, l3⟩
  have HB : Hid (Below W.heap.size W ((w4.setCell ⟨W.heap.size, 0, none⟩ (.int .i64 x)).setCell ⟨W.heap.size, 1, none⟩ (.int .i64 y))) := below_grown ((hG0.trans hG4).andThen gP (fun j e => by cases e; exact .inl (Nat.le_refl _)))
  have HF := hidOf (put2 bR4 (.int .i64 x) (.int .i64 y))
  obtain ⟨c0, c1, f0, f1⟩ := rd_cells bR4
  clear hs0 k2 k2' k2'' k3 k3' g2 g3 g4 hG0 hG1 hG2 hG3 hG4 hR hR2 hR3 hR4 gP bR4 bR0 hlx hly hBk h
  go_wp2
  have bF := HF.out
  have gD := HD.out
  have gB := HB.out
  clear HF HD HB
  generalize (w4.setCell ⟨W.heap.size, 0, none⟩ (.int .i64 x)).setCell ⟨W.heap.size, 1, none⟩ (.int .i64 y) = WF at bF gD gB ⊢
  obtain ⟨z0, z1, _, _⟩ := rd_cells bF
  exact bodyPost_ret (v := .tuple #[vk, vw, kv x y]) (by simp [results, Try.results19, go_sem, z0, z1]) rfl ⟨vk, ks, vw, ws, x, y, rfl, gD, gB⟩
end Go.Proofs.Ytkkjpkldfllfiaa
