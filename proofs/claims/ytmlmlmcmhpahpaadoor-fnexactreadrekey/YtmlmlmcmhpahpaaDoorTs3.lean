
/- ReadRekey of the model. -/
import Derived.Test.YtmlmlmcmhpahpaaDoorTs2
import Derived.Test.YtmlmlmcmhpahpaaDoorMarkW2
namespace Go.Proofs.YtmlmlmcmhpahpaaDoor
open Go.RowKit Go.Shelf
namespace Tx

set_option maxRecDepth 100000 in
theorem l8Read_any (l : List UInt8) (w : World) (hl : l.length ≤ 1048576) :
    Calls Tryd.prog 38 #[st l] w fun e w' => e = .returned (.tuple #[kv (sKey l).1.1 (sKey l).1.2, .bool (sKey l).2]) ∧ Below w.heap.size w w' := by
  have HC := cut_len 46 l
  have HSK : Hid (sKey l = (((pInt (cut 46 l).1).1, (pInt (cut 46 l).2.1).1), (pInt (cut 46 l).1).2 && (pInt (cut 46 l).2.1).2)) := rfl
  generalize sKey l = sk at HSK ⊢
  have B1 := hidT (oneB w (kb 0 0))
  have P1 := hidT (heap_new w (kb 0 0))
  go_enter Tryd.func38, Tryd.ntmps38
  go_wp2_with fail
  refine (l1Cut_any 46 l _ hl).mono ?_
  rintro e w1 ⟨rfl, q, rfl⟩
  have B1 := hidT (below_drewN B1.out q)
  have P1 : Hid (((w.alloc (kb 0 0)).drewN q).heap[w.heap.size]? = some (kb 0 0)) := P1.out
  generalize (w.alloc (kb 0 0)).drewN q = w1 at B1 P1 ⊢
  generalize cut 46 l = cc at HC HSK ⊢
  obtain ⟨wd, rest, fnd⟩ := cc
  have hrl : rest.length ≤ 1048576 := Nat.le_trans HC.2 hl
  have hrl1 : wd.length ≤ 1048576 := Nat.le_trans HC.1 hl
  clear HC
  go_wp2_with fail
  refine (l1Int_any wd _ hrl1).mono ?_
  rintro e w2 ⟨rfl, hw2⟩
  subst hw2
  go_wp2_with fail
  refine (l1Int_any rest _ hrl).mono ?_
  rintro e w3 ⟨rfl, hw3⟩
  subst hw3
  generalize pInt wd = p1 at HSK ⊢
  generalize pInt rest = p2 at HSK ⊢
  obtain ⟨n1, b1⟩ := p1
  obtain ⟨n2, b2⟩ := p2
  have HSK2 : Hid (sk = ((n1, n2), b1 && b2)) := HSK.out
  clear HSK
  obtain ⟨c0, c1, f0, f1⟩ := blk2 P1.out
  have HT := hidT (set2 (.int .i64 n1) (.int .i64 n2) P1.out)
  have B5 := hidT (B1.out.grown HT.out.2 B1.out.size (fun j e => by cases e; exact Nat.le_refl _))
  have P5 := hidT HT.out.1
  clear HT
  cases b1 with
  | false =>
    go_wp2
    generalize ((_ : World).setCell ⟨w.heap.size, 0, none⟩ (.int .i64 n1)).setCell ⟨w.heap.size, 1, none⟩ (.int .i64 n2) = w5 at B5 P5 ⊢
    obtain ⟨e0, e1, _, _⟩ := blk2 P5.out
    exact bodyPost_ret (v := .tuple #[kv n1 n2, .bool false]) (by simp [results, Tryd.results38, go_sem, e0, e1]) rfl ⟨by rw [HSK2.out]; rfl, B5.out⟩
  | true =>
    go_wp2
    generalize ((_ : World).setCell ⟨w.heap.size, 0, none⟩ (.int .i64 n1)).setCell ⟨w.heap.size, 1, none⟩ (.int .i64 n2) = w5 at B5 P5 ⊢
    obtain ⟨e0, e1, _, _⟩ := blk2 P5.out
    exact bodyPost_ret (v := .tuple #[kv n1 n2, .bool b2]) (by simp [results, Tryd.results38, go_sem, e0, e1]) rfl ⟨by rw [HSK2.out]; rfl, B5.out⟩
end Tx
end Go.Proofs.YtmlmlmcmhpahpaaDoor
