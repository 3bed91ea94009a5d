
/- ReadOp of the model: an op just where the text is the op's. -/
import Derived.Test.YtmlmlmcmhpahpaaDoorTc
import Derived.Test.YtmlmlmcmhpahpaaDoorTr3
namespace Go.Proofs.YtmlmlmcmhpahpaaDoor
open Go.RowKit Go.Shelf
namespace Tx

def kindOf (wd : List UInt8) : Int := if wd = [106, 111, 105, 110] then 1 else if wd = [108, 101, 97, 118, 101] then 2 else if wd = sRefresh then 3 else 0
def specRead (l : List UInt8) : Int × Int × Bool :=
  if l = [] ∨ opText (kindOf (cut 32 l).1) (pInt (cut 32 l).2.1).1 ≠ l then (0, 0, false) else (kindOf (cut 32 l).1, (pInt (cut 32 l).2.1).1, true)
theorem cut_len (c : UInt8) : ∀ l : List UInt8, (cut c l).1.length ≤ l.length ∧ (cut c l).2.1.length ≤ l.length
  | [] => by simp [cut]
  | x :: l => by
    have := cut_len c l
    by_cases h : x = c
    · simp [cut, h]
    · simp [cut, h]; omega
theorem opText_len (k m : Int) : (opText k m).length ≤ 40 := by
  unfold opText
  by_cases hF : formB k m = true
  · rw [if_pos hF]
    have hm : m.toNat ≤ 20 := by
      unfold formB at hF
      by_cases h : k = 1 ∨ k = 2
      · rw [if_pos h] at hF; simp at hF; omega
      · rw [if_neg h] at hF; simp at hF; omega
    have := dec_len 1 m.toNat (by omega)
    unfold opT
    by_cases h1 : k = 1
    · simp [h1]; omega
    · by_cases h2 : k = 2
      · simp [h2]; omega
      · simp [h1, h2]
  · rw [if_neg hF]; simp

set_option maxRecDepth 100000 in
set_option maxHeartbeats 1000000 in
theorem specReadOp_any (l : List UInt8) (w : World) (hl : l.length ≤ 1048576) :
    Calls Tryd.prog 10 #[st l] w fun e w' => e = .returned (.tuple #[kv (specRead l).1 (specRead l).2.1, .bool (specRead l).2.2]) ∧ Below w.heap.size w w' := by
  have HC := cut_len 32 l
  have HSR : Hid (specRead l = if l = [] ∨ opText (kindOf (cut 32 l).1) (pInt (cut 32 l).2.1).1 ≠ l then (0, 0, false) else (kindOf (cut 32 l).1, (pInt (cut 32 l).2.1).1, true)) := rfl
  generalize specRead l = sr at HSR ⊢
  have B1 := hidT (oneB w (opb 0 0))
  have P1 := hidT (heap_new w (opb 0 0))
  go_enter Tryd.func10, Tryd.ntmps10
  go_wp2_with fail
  refine (l1Cut_any 32 l _ hl).mono ?_
  rintro e w1 ⟨rfl, q, rfl⟩
  have B1 := hidT (below_drewN B1.out q)
  have P1 : Hid (((w.alloc (opb 0 0)).drewN q).heap[w.heap.size]? = some (opb 0 0)) := P1.out
  generalize (w.alloc (opb 0 0)).drewN q = w1 at B1 P1 ⊢
  generalize cut 32 l = cc at HC HSR ⊢
  obtain ⟨wd, rest, fnd⟩ := cc
  have hrl : rest.length ≤ 1048576 := Nat.le_trans HC.2 hl
  clear HC
  go_wp2_with fail
  refine (l1Int_any rest _ hrl).mono ?_
  rintro e w2 ⟨rfl, hw2⟩
  subst hw2
  generalize pInt rest = pn at HSR ⊢
  obtain ⟨n, okn⟩ := pn
  have hp : w.heap.size < w2.heap.size := cell_lt (blk2 P1.out).1
  have hpn : ¬ w.heap.size = w2.heap.size := by omega
  by_cases y1 : wd = [106, 111, 105, 110]
  · have y1' : (wd == [106, 111, 105, 110]) = true := by simpa using y1
    have W1 := hidT y1
    clear y1
    have HK := hidT (show kindOf wd = 1 by simp [kindOf, W1.out])
    have Q3 := hidT (heap_new w2 (opb 1 n))
    have P3 := hidT ((heap_old w2 (opb 1 n) hp).trans P1.out)
    have B3 := hidT (B1.out.alloc (Nat.le_of_lt hp) (opb 1 n))
    by_cases hnil : l = []
    · have hnil' : l.isEmpty = true := by simp [hnil]
      have HS := hidT (show sr = (0, 0, false) by rw [HSR.out, if_pos (.inl hnil)])
      obtain ⟨d0, d1, z0, z1⟩ := blk2 P1.out
      have HT := hidT (set2 (.int .i64 0) (.int .i64 0) P1.out)
      have B5 := hidT (B1.out.grown HT.out.2 B1.out.size (fun j e => by cases e; exact Nat.le_refl _))
      have P5 := hidT HT.out.1
      clear HT
      go_wp2
      generalize ((w2.setCell ⟨w.heap.size, 0, none⟩ (.int .i64 0)).setCell ⟨w.heap.size, 1, none⟩ (.int .i64 0)) = w5 at B5 P5 ⊢
      have P6 := (heap_old w5 (opb 1 n) (cell_lt (blk2 P5.out).1)).trans P5.out
      obtain ⟨e0, e1, _, _⟩ := blk2 P6
      refine bodyPost_ret (v := .tuple #[kv 0 0, .bool false]) (by simp [results, Tryd.results10, go_sem, e0, e1]) rfl ⟨by rw [HS.out], B5.out.alloc B5.out.size _⟩
    · have hnil' : l.isEmpty = false := by simp [hnil]
      go_wp2_with fail
      refine (specOpText_any 1 n _).mono ?_
      rintro e w4 ⟨rfl, hb4⟩
      have Q4 := hidT ((hb4.block _ (cell_lt (blk2 Q3.out).1)).trans Q3.out)
      have P4 := hidT ((hb4.block _ (cell_lt (blk2 P3.out).1)).trans P3.out)
      have B4 := hidT (B3.out.trans (hb4.mono B3.out.size))
      clear hb4
      obtain ⟨c0, c1, f0, f1⟩ := blk2 Q4.out
      obtain ⟨d0, d1, z0, z1⟩ := blk2 P4.out
      by_cases ht : opText 1 n = l
      · have HS := hidT (show sr = (1, n, true) by rw [HSR.out, HK.out, if_neg (by simp [hnil, ht])])
        rw [ht]
        have HT := hidT (set2 (.int .i64 1) (.int .i64 n) P4.out)
        have B5 := hidT (B4.out.grown HT.out.2 B4.out.size (fun j e => by cases e; exact Nat.le_refl _))
        have P5 := hidT HT.out.1
        clear HT ht
        go_wp2
        generalize ((w4.setCell ⟨w.heap.size, 0, none⟩ (.int .i64 1)).setCell ⟨w.heap.size, 1, none⟩ (.int .i64 n)) = w5 at B5 P5 ⊢
        obtain ⟨e0, e1, _, _⟩ := blk2 P5.out
        refine bodyPost_ret (v := .tuple #[kv 1 n, .bool true]) (by simp [results, Tryd.results10, go_sem, e0, e1]) rfl ⟨by rw [HS.out], B5.out⟩
      · have HS := hidT (show sr = (0, 0, false) by rw [HSR.out, HK.out, if_pos (.inr ht)])
        have ht' : (opText 1 n == l) = false := by simpa using ht
        have HT := hidT (set2 (.int .i64 0) (.int .i64 0) P4.out)
        have B5 := hidT (B4.out.grown HT.out.2 B4.out.size (fun j e => by cases e; exact Nat.le_refl _))
        have P5 := hidT HT.out.1
        have HH := hidT ht
        clear HT ht
        go_wp2
        generalize ((w4.setCell ⟨w.heap.size, 0, none⟩ (.int .i64 0)).setCell ⟨w.heap.size, 1, none⟩ (.int .i64 0)) = w5 at B5 P5 ⊢
        obtain ⟨e0, e1, _, _⟩ := blk2 P5.out
        refine bodyPost_ret (v := .tuple #[kv 0 0, .bool false]) (by simp [results, Tryd.results10, go_sem, e0, e1]) rfl ⟨by rw [HS.out], B5.out⟩
  have y1' : (wd == [106, 111, 105, 110]) = false := by simpa using y1
  by_cases y2 : wd = [108, 101, 97, 118, 101]
  · have y2' : (wd == [108, 101, 97, 118, 101]) = true := by simpa using y2
    have W1 := hidT y1
    have W2 := hidT y2
    clear y1 y2
    have HK := hidT (show kindOf wd = 2 by simp [kindOf, W2.out])
    have Q3 := hidT (heap_new w2 (opb 2 n))
    have P3 := hidT ((heap_old w2 (opb 2 n) hp).trans P1.out)
    have B3 := hidT (B1.out.alloc (Nat.le_of_lt hp) (opb 2 n))
    by_cases hnil : l = []
    · have hnil' : l.isEmpty = true := by simp [hnil]
      have HS := hidT (show sr = (0, 0, false) by rw [HSR.out, if_pos (.inl hnil)])
      obtain ⟨d0, d1, z0, z1⟩ := blk2 P1.out
      have HT := hidT (set2 (.int .i64 0) (.int .i64 0) P1.out)
      have B5 := hidT (B1.out.grown HT.out.2 B1.out.size (fun j e => by cases e; exact Nat.le_refl _))
      have P5 := hidT HT.out.1
      clear HT
      go_wp2
      generalize ((w2.setCell ⟨w.heap.size, 0, none⟩ (.int .i64 0)).setCell ⟨w.heap.size, 1, none⟩ (.int .i64 0)) = w5 at B5 P5 ⊢
      have P6 := (heap_old w5 (opb 2 n) (cell_lt (blk2 P5.out).1)).trans P5.out
      obtain ⟨e0, e1, _, _⟩ := blk2 P6
      refine bodyPost_ret (v := .tuple #[kv 0 0, .bool false]) (by simp [results, Tryd.results10, go_sem, e0, e1]) rfl ⟨by rw [HS.out], B5.out.alloc B5.out.size _⟩
    · have hnil' : l.isEmpty = false := by simp [hnil]
      go_wp2_with fail
      refine (specOpText_any 2 n _).mono ?_
      rintro e w4 ⟨rfl, hb4⟩
      have Q4 := hidT ((hb4.block _ (cell_lt (blk2 Q3.out).1)).trans Q3.out)
      have P4 := hidT ((hb4.block _ (cell_lt (blk2 P3.out).1)).trans P3.out)
      have B4 := hidT (B3.out.trans (hb4.mono B3.out.size))
      clear hb4
      obtain ⟨c0, c1, f0, f1⟩ := blk2 Q4.out
      obtain ⟨d0, d1, z0, z1⟩ := blk2 P4.out
      by_cases ht : opText 2 n = l
      · have HS := hidT (show sr = (2, n, true) by rw [HSR.out, HK.out, if_neg (by simp [hnil, ht])])
        rw [ht]
        have HT := hidT (set2 (.int .i64 2) (.int .i64 n) P4.out)
        have B5 := hidT (B4.out.grown HT.out.2 B4.out.size (fun j e => by cases e; exact Nat.le_refl _))
        have P5 := hidT HT.out.1
        clear HT ht
        go_wp2
        generalize ((w4.setCell ⟨w.heap.size, 0, none⟩ (.int .i64 2)).setCell ⟨w.heap.size, 1, none⟩ (.int .i64 n)) = w5 at B5 P5 ⊢
        obtain ⟨e0, e1, _, _⟩ := blk2 P5.out
        refine bodyPost_ret (v := .tuple #[kv 2 n, .bool true]) (by simp [results, Tryd.results10, go_sem, e0, e1]) rfl ⟨by rw [HS.out], B5.out⟩
      · have HS := hidT (show sr = (0, 0, false) by rw [HSR.out, HK.out, if_pos (.inr ht)])
        have ht' : (opText 2 n == l) = false := by simpa using ht
        have HT := hidT (set2 (.int .i64 0) (.int .i64 0) P4.out)
        have B5 := hidT (B4.out.grown HT.out.2 B4.out.size (fun j e => by cases e; exact Nat.le_refl _))
        have P5 := hidT HT.out.1
        have HH := hidT ht
        clear HT ht
        go_wp2
        generalize ((w4.setCell ⟨w.heap.size, 0, none⟩ (.int .i64 0)).setCell ⟨w.heap.size, 1, none⟩ (.int .i64 0)) = w5 at B5 P5 ⊢
        obtain ⟨e0, e1, _, _⟩ := blk2 P5.out
        refine bodyPost_ret (v := .tuple #[kv 0 0, .bool false]) (by simp [results, Tryd.results10, go_sem, e0, e1]) rfl ⟨by rw [HS.out], B5.out⟩
  have y2' : (wd == [108, 101, 97, 118, 101]) = false := by simpa using y2
  by_cases y3 : wd = [114, 101, 102, 114, 101, 115, 104]
  · have y3' : (wd == [114, 101, 102, 114, 101, 115, 104]) = true := by simpa using y3
    have W1 := hidT y1
    have W2 := hidT y2
    have W3 := hidT y3
    clear y1 y2 y3
    have HK := hidT (show kindOf wd = 3 by simp [kindOf, W3.out])
    have Q3 := hidT (heap_new w2 (opb 3 n))
    have P3 := hidT ((heap_old w2 (opb 3 n) hp).trans P1.out)
    have B3 := hidT (B1.out.alloc (Nat.le_of_lt hp) (opb 3 n))
    by_cases hnil : l = []
    · have hnil' : l.isEmpty = true := by simp [hnil]
      have HS := hidT (show sr = (0, 0, false) by rw [HSR.out, if_pos (.inl hnil)])
      obtain ⟨d0, d1, z0, z1⟩ := blk2 P1.out
      have HT := hidT (set2 (.int .i64 0) (.int .i64 0) P1.out)
      have B5 := hidT (B1.out.grown HT.out.2 B1.out.size (fun j e => by cases e; exact Nat.le_refl _))
      have P5 := hidT HT.out.1
      clear HT
      go_wp2
      generalize ((w2.setCell ⟨w.heap.size, 0, none⟩ (.int .i64 0)).setCell ⟨w.heap.size, 1, none⟩ (.int .i64 0)) = w5 at B5 P5 ⊢
      have P6 := (heap_old w5 (opb 3 n) (cell_lt (blk2 P5.out).1)).trans P5.out
      obtain ⟨e0, e1, _, _⟩ := blk2 P6
      refine bodyPost_ret (v := .tuple #[kv 0 0, .bool false]) (by simp [results, Tryd.results10, go_sem, e0, e1]) rfl ⟨by rw [HS.out], B5.out.alloc B5.out.size _⟩
    · have hnil' : l.isEmpty = false := by simp [hnil]
      go_wp2_with fail
      refine (specOpText_any 3 n _).mono ?_
      rintro e w4 ⟨rfl, hb4⟩
      have Q4 := hidT ((hb4.block _ (cell_lt (blk2 Q3.out).1)).trans Q3.out)
      have P4 := hidT ((hb4.block _ (cell_lt (blk2 P3.out).1)).trans P3.out)
      have B4 := hidT (B3.out.trans (hb4.mono B3.out.size))
      clear hb4
      obtain ⟨c0, c1, f0, f1⟩ := blk2 Q4.out
      obtain ⟨d0, d1, z0, z1⟩ := blk2 P4.out
      by_cases ht : opText 3 n = l
      · have HS := hidT (show sr = (3, n, true) by rw [HSR.out, HK.out, if_neg (by simp [hnil, ht])])
        rw [ht]
        have HT := hidT (set2 (.int .i64 3) (.int .i64 n) P4.out)
        have B5 := hidT (B4.out.grown HT.out.2 B4.out.size (fun j e => by cases e; exact Nat.le_refl _))
        have P5 := hidT HT.out.1
        clear HT ht
        go_wp2
        generalize ((w4.setCell ⟨w.heap.size, 0, none⟩ (.int .i64 3)).setCell ⟨w.heap.size, 1, none⟩ (.int .i64 n)) = w5 at B5 P5 ⊢
        obtain ⟨e0, e1, _, _⟩ := blk2 P5.out
        refine bodyPost_ret (v := .tuple #[kv 3 n, .bool true]) (by simp [results, Tryd.results10, go_sem, e0, e1]) rfl ⟨by rw [HS.out], B5.out⟩
      · have HS := hidT (show sr = (0, 0, false) by rw [HSR.out, HK.out, if_pos (.inr ht)])
        have ht' : (opText 3 n == l) = false := by simpa using ht
        have HT := hidT (set2 (.int .i64 0) (.int .i64 0) P4.out)
        have B5 := hidT (B4.out.grown HT.out.2 B4.out.size (fun j e => by cases e; exact Nat.le_refl _))
        have P5 := hidT HT.out.1
        have HH := hidT ht
        clear HT ht
        go_wp2
        generalize ((w4.setCell ⟨w.heap.size, 0, none⟩ (.int .i64 0)).setCell ⟨w.heap.size, 1, none⟩ (.int .i64 0)) = w5 at B5 P5 ⊢
        obtain ⟨e0, e1, _, _⟩ := blk2 P5.out
        refine bodyPost_ret (v := .tuple #[kv 0 0, .bool false]) (by simp [results, Tryd.results10, go_sem, e0, e1]) rfl ⟨by rw [HS.out], B5.out⟩
  have y3' : (wd == [114, 101, 102, 114, 101, 115, 104]) = false := by simpa using y3
  have W1 := hidT y1
  have W2 := hidT y2
  have W3 := hidT y3
  clear y1 y2 y3
  have HK := hidT (show kindOf wd = 0 by simp [kindOf, W1.out, W2.out, W3.out])
  have Q3 := hidT (heap_new w2 (opb 0 n))
  have P3 := hidT ((heap_old w2 (opb 0 n) hp).trans P1.out)
  have B3 := hidT (B1.out.alloc (Nat.le_of_lt hp) (opb 0 n))
  by_cases hnil : l = []
  · have hnil' : l.isEmpty = true := by simp [hnil]
    have HS := hidT (show sr = (0, 0, false) by rw [HSR.out, if_pos (.inl hnil)])
    obtain ⟨d0, d1, z0, z1⟩ := blk2 P1.out
    have HT := hidT (set2 (.int .i64 0) (.int .i64 0) P1.out)
    have B5 := hidT (B1.out.grown HT.out.2 B1.out.size (fun j e => by cases e; exact Nat.le_refl _))
    have P5 := hidT HT.out.1
    clear HT
    go_wp2
    generalize ((w2.setCell ⟨w.heap.size, 0, none⟩ (.int .i64 0)).setCell ⟨w.heap.size, 1, none⟩ (.int .i64 0)) = w5 at B5 P5 ⊢
    have P6 := (heap_old w5 (opb 0 n) (cell_lt (blk2 P5.out).1)).trans P5.out
    obtain ⟨e0, e1, _, _⟩ := blk2 P6
    refine bodyPost_ret (v := .tuple #[kv 0 0, .bool false]) (by simp [results, Tryd.results10, go_sem, e0, e1]) rfl ⟨by rw [HS.out], B5.out.alloc B5.out.size _⟩
  · have hnil' : l.isEmpty = false := by simp [hnil]
    go_wp2_with fail
    refine (specOpText_any 0 n _).mono ?_
    rintro e w4 ⟨rfl, hb4⟩
    have Q4 := hidT ((hb4.block _ (cell_lt (blk2 Q3.out).1)).trans Q3.out)
    have P4 := hidT ((hb4.block _ (cell_lt (blk2 P3.out).1)).trans P3.out)
    have B4 := hidT (B3.out.trans (hb4.mono B3.out.size))
    clear hb4
    obtain ⟨c0, c1, f0, f1⟩ := blk2 Q4.out
    obtain ⟨d0, d1, z0, z1⟩ := blk2 P4.out
    by_cases ht : opText 0 n = l
    · have HS := hidT (show sr = (0, n, true) by rw [HSR.out, HK.out, if_neg (by simp [hnil, ht])])
      rw [ht]
      have HT := hidT (set2 (.int .i64 0) (.int .i64 n) P4.out)
      have B5 := hidT (B4.out.grown HT.out.2 B4.out.size (fun j e => by cases e; exact Nat.le_refl _))
      have P5 := hidT HT.out.1
      clear HT ht
      go_wp2
      generalize ((w4.setCell ⟨w.heap.size, 0, none⟩ (.int .i64 0)).setCell ⟨w.heap.size, 1, none⟩ (.int .i64 n)) = w5 at B5 P5 ⊢
      obtain ⟨e0, e1, _, _⟩ := blk2 P5.out
      refine bodyPost_ret (v := .tuple #[kv 0 n, .bool true]) (by simp [results, Tryd.results10, go_sem, e0, e1]) rfl ⟨by rw [HS.out], B5.out⟩
    · have HS := hidT (show sr = (0, 0, false) by rw [HSR.out, HK.out, if_pos (.inr ht)])
      have ht' : (opText 0 n == l) = false := by simpa using ht
      have HT := hidT (set2 (.int .i64 0) (.int .i64 0) P4.out)
      have B5 := hidT (B4.out.grown HT.out.2 B4.out.size (fun j e => by cases e; exact Nat.le_refl _))
      have P5 := hidT HT.out.1
      have HH := hidT ht
      clear HT ht
      go_wp2
      generalize ((w4.setCell ⟨w.heap.size, 0, none⟩ (.int .i64 0)).setCell ⟨w.heap.size, 1, none⟩ (.int .i64 0)) = w5 at B5 P5 ⊢
      obtain ⟨e0, e1, _, _⟩ := blk2 P5.out
      refine bodyPost_ret (v := .tuple #[kv 0 0, .bool false]) (by simp [results, Tryd.results10, go_sem, e0, e1]) rfl ⟨by rw [HS.out], B5.out⟩
end Tx
end Go.Proofs.YtmlmlmcmhpahpaaDoor
