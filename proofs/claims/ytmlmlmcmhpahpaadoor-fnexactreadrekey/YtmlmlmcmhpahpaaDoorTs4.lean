
/- ReadRekey of the model: the walk. -/
import Derived.Test.YtmlmlmcmhpahpaaDoorTs3
namespace Go.Proofs.YtmlmlmcmhpahpaaDoor
open Go.RowKit Go.Shelf
namespace Tx

/-- What the model answers behind its loop. -/
def endRk (l wd : List UInt8) (fnd : Bool) (n : Int) (o : Option (List W4)) : Int × List W4 × Bool := match o with
  | none => (0, [], false)
  | some ws => if wd = wEpoch ∧ fnd = true ∧ rekText n ws = l then (n, ws, true) else (0, [], false)
theorem specRk_end (l : List UInt8) : specRk l = endRk l (cut 32 l).1 (cut 32 l).2.2 (pInt (cut 32 (cut 32 l).2.1).1).1 (sWs 401 (cut 32 (cut 32 l).2.1).2.2 (cut 32 (cut 32 l).2.1).2.1) := rfl
theorem sWs_false (f : Nat) (l : List UInt8) : sWs f false l = some [] := by cases f <;> simp [sWs]
theorem sWs_zero (b : Bool) (l : List UInt8) : sWs 0 b l = some [] := rfl
theorem sWs_succ (f : Nat) (l : List UInt8) : sWs (f + 1) true l = if (sOne (cut 32 l).1).2 = true then (sWs f (cut 32 l).2.2 (cut 32 l).2.1).map ((sOne (cut 32 l).1).1 :: ·) else none := by simp [sWs]
/-- How long the row in a rekey's block is. -/
def rowLen (q : Nat) (w : World) : Nat := match w.cell? ⟨q, 1, none⟩ with
  | some (.slice _ n _) => n
  | _ => 0
/-- Where the model's reading of a rekey stands: mr and lr are to be read still, us are the wraps so far; q is the rekey's block. -/
structure SrIs (w : World) (q : Nat) (ep : Int) (o : Option (List W4)) (mr : Bool) (lr : List UInt8) (us : List W4) (x : Value) (W : World) : Prop where
  res : W.heap[w.heap.size]? = some (rb 0 (.slice none 0 0))
  var : W.heap[q]? = some (rb ep x)
  row : Wraps w.heap.size x us W
  below : Below w.heap.size w W
  pq : w.heap.size < q
  parsed : o = (sWs (401 - us.length) mr lr).map (us ++ ·)
  len : us.length ≤ 401
  lrLen : lr.length ≤ 1048576
theorem SrIs.since {w W W' : World} {q : Nat} {ep : Int} {o : Option (List W4)} {mr : Bool} {lr : List UInt8} {us : List W4} {x : Value} (h : SrIs w q ep o mr lr us x W) (hb : Below W.heap.size W W') : SrIs w q ep o mr lr us x W' :=
  ⟨(hb.block _ (cell_lt (blk2 h.res).1)).trans h.res, (hb.block _ (cell_lt (blk2 h.var).1)).trans h.var, wrapsSince h.row hb, h.below.trans (hb.mono h.below.size), h.pq, h.parsed, h.len, h.lrLen⟩
theorem SrIs.rowLen {w W : World} {q : Nat} {ep : Int} {o : Option (List W4)} {mr : Bool} {lr : List UInt8} {us : List W4} {x : Value} (h : SrIs w q ep o mr lr us x W) : Tx.rowLen q W = us.length := by
  obtain ⟨a, c, rfl⟩ := wrapsRow h.row
  simp [Tx.rowLen, (blk2 h.var).2.1]
theorem row_form {W : World} {B n : Nat} {v : Value} {ys : List Value} (h : W.ownsRow B 63 4 v (n + 1) ys) : ∃ g c, v = .slice (some ⟨g, 0, none⟩) (n + 1) c := by
  rcases h.2 with ⟨_, h0⟩ | ⟨g, cap, cur, e, _⟩
  · simp at h0
  · exact ⟨g, cap, e⟩
theorem SrIs.stored {w W : World} {q : Nat} {ep : Int} {o : Option (List W4)} {mr : Bool} {lr : List UInt8} {us : List W4} {x y : Value} (h1 : W.heap[w.heap.size]? = some (rb 0 (.slice none 0 0))) (h2 : W.heap[q]? = some (rb ep y)) (h3 : Wraps w.heap.size x us W)
    (h4 : Below w.heap.size w W) (h5 : w.heap.size < q) (h6 : o = (sWs (401 - us.length) mr lr).map (us ++ ·)) (h7 : us.length ≤ 401) (h8 : lr.length ≤ 1048576) : SrIs w q ep o mr lr us x (W.setCell ⟨q, 1, none⟩ x) := by
  have e1 : (W.setCell ⟨q, 1, none⟩ x).heap[q]? = some (rb ep x) := by
    simp only [World.setCell, Array.getElem?_modify, h2]
    simp
  have g : W.grownBy (W.setCell ⟨q, 1, none⟩ x) (some q) := ⟨rfl, rfl, rfl, by simp [World.setCell], fun i hi hne => by
    have hq : ¬ q = i := fun e => hne (by rw [e])
    simp [World.setCell, Array.getElem?_modify, hq]⟩
  exact ⟨(g.block _ (cell_lt (blk2 h1).1) (by simp; omega)).trans h1, e1, wrapsKept h3 g (fun k e => by cases e; exact wraps_ne h3 h2 (by decide)), h4.grown g h4.size (fun j e => by cases e; omega), h5, h6, h7, h8⟩

set_option maxRecDepth 100000 in
set_option maxHeartbeats 4000000 in
theorem specReadRekey_any (l : List UInt8) (w : World) (hl : l.length ≤ 1048576) :
    Calls Tryd.prog 18 #[st l] w fun e w' => ∃ x, e = .returned (.tuple #[rv (specRk l).1 x, .bool (specRk l).2.2]) ∧ Wraps w.heap.size x (specRk l).2.1 w' ∧ Below w.heap.size w w' := by
  obtain ⟨i0, hii, hz0, hz1, hz2⟩ := info_parts' infoWr
  have HC := cut_len 32 l
  have HSR := hidT (specRk_end l)
  generalize specRk l = sr at HSR ⊢
  have B1 := hidT (oneB w (rb 0 (.slice none 0 0)))
  have P1 := hidT (heap_new w (rb 0 (.slice none 0 0)))
  go_enter Tryd.func18, Tryd.ntmps18
  go_wp2_with fail
  refine (l1Cut_any 32 l _ hl).mono ?_
  rintro e w1 ⟨rfl, q1, rfl⟩
  have B1 := hidT (below_drewN B1.out q1)
  have P1 : Hid (((w.alloc (rb 0 (.slice none 0 0))).drewN q1).heap[w.heap.size]? = some (rb 0 (.slice none 0 0))) := P1.out
  generalize (w.alloc (rb 0 (.slice none 0 0))).drewN q1 = w1 at B1 P1 ⊢
  generalize cut 32 l = cc at HC HSR ⊢
  obtain ⟨wd, rest, fnd⟩ := cc
  have hrl : rest.length ≤ 1048576 := Nat.le_trans HC.2 hl
  clear HC
  have HC := cut_len 32 rest
  go_wp2_with fail
  refine (l1Cut_any 32 rest _ hrl).mono ?_
  rintro e w2 ⟨rfl, q2, rfl⟩
  have B2 := hidT (below_drewN B1.out q2)
  have P2 : Hid ((w1.drewN q2).heap[w.heap.size]? = some (rb 0 (.slice none 0 0))) := P1.out
  generalize w1.drewN q2 = w2 at B2 P2 ⊢
  clear B1 P1
  have HSR := hidT (show sr = endRk l wd fnd (pInt (cut 32 rest).1).1 (sWs 401 (cut 32 rest).2.2 (cut 32 rest).2.1) from HSR.out)
  generalize cut 32 rest = cc at HC HSR ⊢
  obtain ⟨one, rest2, more2⟩ := cc
  have hol : one.length ≤ 1048576 := Nat.le_trans HC.1 hrl
  have hr2 : rest2.length ≤ 1048576 := Nat.le_trans HC.2 hrl
  clear HC
  go_wp2_with fail
  refine (l1Int_any one _ hol).mono ?_
  rintro e w3 ⟨rfl, hw3⟩
  subst hw3
  have HSR := hidT (show sr = endRk l wd fnd (pInt one).1 (sWs 401 more2 rest2) from HSR.out)
  generalize pInt one = pn at HSR ⊢
  obtain ⟨ep, okn⟩ := pn
  have HSR := hidT (show sr = endRk l wd fnd ep (sWs 401 more2 rest2) from HSR.out)
  have hpq : w.heap.size < w3.heap.size := cell_lt (blk2 P2.out).1
  obtain ⟨o, HO⟩ : ∃ o, Hid (sWs 401 more2 rest2 = o) := ⟨_, rfl⟩
  rw [HO.out] at HSR
  have HREL0 := hidT (show SrIs w w3.heap.size ep o more2 rest2 [] (.slice none 0 0) (w3.alloc (rb ep (.slice none 0 0))) from ⟨(heap_old _ _ hpq).trans P2.out, heap_new _ _, wraps_nil _ _, B2.out.alloc B2.out.size _, hpq, by rw [← HO.out]; simp, by simp, hr2⟩)
  clear P2 B2 HO
  go_wp2
  generalize w3.alloc (.cells #[.int .i64 ep, .slice none 0 0] 39) = w4 at HREL0 ⊢
  generalize hqd : w3.heap.size = q at HREL0 hpq ⊢
  clear hqd
  go_loopw [5, 8] (fun sv mv wr => ∃ lr mr us x, sv = st lr ∧ mv = .bool mr ∧ Hid (SrIs w q ep o mr lr us x wr)) (fun _ _ wr => 402 - rowLen q wr)
  case atStart => exact ⟨rest2, more2, [], _, rfl, rfl, HREL0⟩
  case round =>
    obtain ⟨lr, mr, us, x, rfl, rfl, HR⟩ := hrel
    clear HREL0
    obtain ⟨ax, cx, hx⟩ := wrapsRow HR.out.row
    obtain ⟨N, HLEN⟩ : ∃ n, Hid (us.length = n) := ⟨_, rfl⟩
    rw [HLEN.out] at hx
    subst hx
    have hlen := HR.out.len
    rw [HLEN.out] at hlen
    have hrowl := HR.out.rowLen
    rw [HLEN.out] at hrowl
    obtain ⟨c0, c1, f0, f1⟩ := blk2 HR.out.var
    obtain ⟨d0, d1, z0, z1⟩ := blk2 HR.out.res
    cases mr with
    | false =>
      have HE := hidT (show sr = endRk l wd fnd ep (some us) by rw [HSR.out, HR.out.parsed, sWs_false]; simp)
      by_cases hw : wd = wEpoch
      · have hw' : (wd == [101, 112, 111, 99, 104]) = true := by simpa using hw
        have HW := hidT hw
        clear hw
        cases fnd with
        | false =>
          have HZ := hidT (show sr = (0, [], false) by rw [HE.out, endRk, if_neg (by simp)])
          have HT := hidT (set2 (.int .i64 0) (.slice none 0 0) HR.out.res)
          have B9 := hidT (HR.out.below.grown HT.out.2 HR.out.below.size (fun j e => by cases e; exact Nat.le_refl _))
          have P9 := hidT HT.out.1
          clear HT
          go_wp2
          generalize ((wr.setCell ⟨w.heap.size, 0, none⟩ (.int .i64 0)).setCell ⟨w.heap.size, 1, none⟩ (.slice none 0 0)) = w9 at B9 P9 ⊢
          obtain ⟨e0, e1, _, _⟩ := blk2 P9.out
          exact bodyPost_ret (v := .tuple #[rv 0 (.slice none 0 0), .bool false]) (by simp [results, Tryd.results18, go_sem, e0, e1]) rfl ⟨.slice none 0 0, by rw [HZ.out], by rw [HZ.out]; exact wraps_nil _ _, B9.out⟩
        | true =>
          go_wp2_with fail
          refine (specRekeyText_any ep HR.out.row).mono ?_
          rintro e w5 ⟨rfl, hb5⟩
          have H5 := hidT (HR.out.since hb5)
          clear hb5 c0 c1 f0 f1 d0 d1 z0 z1
          obtain ⟨c0, c1, f0, f1⟩ := blk2 H5.out.var
          obtain ⟨d0, d1, z0, z1⟩ := blk2 H5.out.res
          by_cases ht : rekText ep us = l
          · have HZ := hidT (show sr = (ep, us, true) by rw [HE.out, endRk, if_pos ⟨HW.out, rfl, ht⟩])
            rw [ht]
            clear ht
            have HT := hidT (set2 (.int .i64 ep) (.slice ax N cx) H5.out.res)
            have B9 := hidT (H5.out.below.grown HT.out.2 H5.out.below.size (fun j e => by cases e; exact Nat.le_refl _))
            have X9 := hidT (wrapsKept H5.out.row HT.out.2 (fun k e => by cases e; exact wraps_ne H5.out.row H5.out.res (by decide)))
            have P9 := hidT HT.out.1
            clear HT
            go_wp2
            generalize ((w5.setCell ⟨w.heap.size, 0, none⟩ (.int .i64 ep)).setCell ⟨w.heap.size, 1, none⟩ (.slice ax N cx)) = w9 at B9 P9 X9 ⊢
            obtain ⟨e0, e1, _, _⟩ := blk2 P9.out
            exact bodyPost_ret (v := .tuple #[rv ep (.slice ax N cx), .bool true]) (by simp [results, Tryd.results18, go_sem, e0, e1]) rfl ⟨.slice ax N cx, by rw [HZ.out], by rw [HZ.out]; exact X9.out, B9.out⟩
          · have ht' : (rekText ep us == l) = false := by simpa using ht
            have HZ := hidT (show sr = (0, [], false) by rw [HE.out, endRk, if_neg (by simp [ht])])
            clear ht
            have HT := hidT (set2 (.int .i64 0) (.slice none 0 0) H5.out.res)
            have B9 := hidT (H5.out.below.grown HT.out.2 H5.out.below.size (fun j e => by cases e; exact Nat.le_refl _))
            have P9 := hidT HT.out.1
            clear HT
            go_wp2
            generalize ((w5.setCell ⟨w.heap.size, 0, none⟩ (.int .i64 0)).setCell ⟨w.heap.size, 1, none⟩ (.slice none 0 0)) = w9 at B9 P9 ⊢
            obtain ⟨e0, e1, _, _⟩ := blk2 P9.out
            exact bodyPost_ret (v := .tuple #[rv 0 (.slice none 0 0), .bool false]) (by simp [results, Tryd.results18, go_sem, e0, e1]) rfl ⟨.slice none 0 0, by rw [HZ.out], by rw [HZ.out]; exact wraps_nil _ _, B9.out⟩
      · have hw' : (wd == [101, 112, 111, 99, 104]) = false := by simpa using hw
        have HZ := hidT (show sr = (0, [], false) by rw [HE.out, endRk, if_neg (by simp [hw])])
        clear hw
        have HT := hidT (set2 (.int .i64 0) (.slice none 0 0) HR.out.res)
        have B9 := hidT (HR.out.below.grown HT.out.2 HR.out.below.size (fun j e => by cases e; exact Nat.le_refl _))
        have P9 := hidT HT.out.1
        clear HT
        go_wp2
        generalize ((wr.setCell ⟨w.heap.size, 0, none⟩ (.int .i64 0)).setCell ⟨w.heap.size, 1, none⟩ (.slice none 0 0)) = w9 at B9 P9 ⊢
        obtain ⟨e0, e1, _, _⟩ := blk2 P9.out
        exact bodyPost_ret (v := .tuple #[rv 0 (.slice none 0 0), .bool false]) (by simp [results, Tryd.results18, go_sem, e0, e1]) rfl ⟨.slice none 0 0, by rw [HZ.out], by rw [HZ.out]; exact wraps_nil _ _, B9.out⟩
    | true =>
      by_cases h400 : (N : Int) ≤ 400
      · obtain ⟨f, HF⟩ : ∃ f, Hid (401 - us.length = f + 1 ∧ f = 400 - N) := ⟨400 - N, by rw [HLEN.out]; omega, rfl⟩
        have HPS := hidT (show o = (sWs (f + 1) true lr).map (us ++ ·) by rw [← HF.out.1]; exact HR.out.parsed)
        rw [sWs_succ] at HPS
        have HC := cut_len 32 lr
        go_wp2_with fail
        refine (l1Cut_any 32 lr _ HR.out.lrLen).mono ?_
        rintro e w5 ⟨rfl, q5, rfl⟩
        have H5 := hidT (HR.out.since (below_drewN (Below.refl _ _) q5))
        have hlr := HR.out.lrLen
        generalize wr.drewN q5 = w5 at H5 ⊢
        clear HR c0 c1 f0 f1 d0 d1 z0 z1
        generalize cut 32 lr = cc at HC HPS ⊢
        obtain ⟨a1, lr2, mr2⟩ := cc
        have HPS := hidT (show o = (if (sOne a1).2 = true then (sWs f mr2 lr2).map ((sOne a1).1 :: ·) else none).map (us ++ ·) from HPS.out)
        have hal : a1.length ≤ 1048576 := Nat.le_trans HC.1 hlr
        have hl2 : lr2.length ≤ 1048576 := Nat.le_trans HC.2 hlr
        clear HC
        have HC := cut_len 62 a1
        go_wp2_with fail
        refine (l1Cut_any 62 a1 _ hal).mono ?_
        rintro e w6 ⟨rfl, q6, rfl⟩
        have H6 := hidT (H5.out.since (below_drewN (Below.refl _ _) q6))
        generalize w5.drewN q6 = w6 at H6 ⊢
        clear H5
        have HPS := hidT (show o = (if ((sKey (cut 62 a1).1).2 && (sKey (cut 62 a1).2.1).2) = true then (sWs f mr2 lr2).map (((sKey (cut 62 a1).1).1.1, (sKey (cut 62 a1).1).1.2, (sKey (cut 62 a1).2.1).1.1, (sKey (cut 62 a1).2.1).1.2) :: ·) else none).map (us ++ ·) from HPS.out)
        generalize cut 62 a1 = cc at HC HPS ⊢
        obtain ⟨ka, kb', fk⟩ := cc
        have HPS := hidT (show o = (if ((sKey ka).2 && (sKey kb').2) = true then (sWs f mr2 lr2).map (((sKey ka).1.1, (sKey ka).1.2, (sKey kb').1.1, (sKey kb').1.2) :: ·) else none).map (us ++ ·) from HPS.out)
        have hka : ka.length ≤ 1048576 := Nat.le_trans HC.1 hal
        have hkb : kb'.length ≤ 1048576 := Nat.le_trans HC.2 hal
        clear HC
        go_wp2_with fail
        refine (l8Read_any ka _ hka).mono ?_
        rintro e w7 ⟨rfl, hb7⟩
        have H7 := hidT (H6.out.since hb7)
        clear hb7 H6
        generalize sKey ka = s1 at HPS ⊢
        obtain ⟨⟨k1, k2⟩, okA⟩ := s1
        have H7a := hidT (H7.out.since (oneB w7 (kb k1 k2)))
        have K7a := hidT (heap_new w7 (kb k1 k2))
        go_wp2_with fail
        refine (l8Read_any kb' _ hkb).mono ?_
        rintro e w8 ⟨rfl, hb8⟩
        have H8 := hidT (H7a.out.since hb8)
        have K8 := hidT ((hb8.block _ (cell_lt (blk2 K7a.out).1)).trans K7a.out)
        clear hb8 H7a K7a H7
        generalize sKey kb' = s2 at HPS ⊢
        obtain ⟨⟨k3, k4⟩, okB⟩ := s2
        have HPS := hidT (show o = (if (okA && okB) = true then (sWs f mr2 lr2).map ((k1, k2, k3, k4) :: ·) else none).map (us ++ ·) from HPS.out)
        have h78 : w7.heap.size < w8.heap.size := cell_lt (blk2 K8.out).1
        have H8a := hidT (H8.out.since (oneB w8 (kb k3 k4)))
        have K8a := hidT ((heap_old w8 (kb k3 k4) h78).trans K8.out)
        have J8a := hidT (heap_new w8 (kb k3 k4))
        have hr8 : ¬ w.heap.size = w8.heap.size := by have := cell_lt (blk2 H8.out.res).1; simp only at this; omega
        have hq8 : ¬ q = w8.heap.size := by have := cell_lt (blk2 H8.out.var).1; simp only at this; omega
        cases okA with
        | false =>
          have HZ := hidT (show sr = (0, [], false) by rw [HSR.out, HPS.out]; simp [endRk])
          obtain ⟨d0, d1, z0, z1⟩ := blk2 H8a.out.res
          have HT := hidT (set2 (.int .i64 0) (.slice none 0 0) H8a.out.res)
          have B9 := hidT (H8a.out.below.grown HT.out.2 H8a.out.below.size (fun j e => by cases e; exact Nat.le_refl _))
          have P9 := hidT HT.out.1
          clear HT
          go_wp2
          generalize (((w8.alloc (kb k3 k4)).setCell ⟨w.heap.size, 0, none⟩ (.int .i64 0)).setCell ⟨w.heap.size, 1, none⟩ (.slice none 0 0)) = w9 at B9 P9 ⊢
          obtain ⟨e0, e1, _, _⟩ := blk2 P9.out
          exact bodyPost_ret (v := .tuple #[rv 0 (.slice none 0 0), .bool false]) (by simp [results, Tryd.results18, go_sem, e0, e1]) rfl ⟨.slice none 0 0, by rw [HZ.out], by rw [HZ.out]; exact wraps_nil _ _, B9.out⟩
        | true =>
          cases okB with
          | false =>
            have HZ := hidT (show sr = (0, [], false) by rw [HSR.out, HPS.out]; simp [endRk])
            obtain ⟨d0, d1, z0, z1⟩ := blk2 H8a.out.res
            have HT := hidT (set2 (.int .i64 0) (.slice none 0 0) H8a.out.res)
            have B9 := hidT (H8a.out.below.grown HT.out.2 H8a.out.below.size (fun j e => by cases e; exact Nat.le_refl _))
            have P9 := hidT HT.out.1
            clear HT
            go_wp2
            generalize (((w8.alloc (kb k3 k4)).setCell ⟨w.heap.size, 0, none⟩ (.int .i64 0)).setCell ⟨w.heap.size, 1, none⟩ (.slice none 0 0)) = w9 at B9 P9 ⊢
            obtain ⟨e0, e1, _, _⟩ := blk2 P9.out
            exact bodyPost_ret (v := .tuple #[rv 0 (.slice none 0 0), .bool false]) (by simp [results, Tryd.results18, go_sem, e0, e1]) rfl ⟨.slice none 0 0, by rw [HZ.out], by rw [HZ.out]; exact wraps_nil _ _, B9.out⟩
          | true =>
            have HPT := hidT (show o = (sWs f mr2 lr2).map ((us ++ [(k1, k2, k3, k4)]) ++ ·) by rw [HPS.out]; simp [Function.comp_def])
            clear HPS
            obtain ⟨c0, c1, f0, f1⟩ := blk2 H8.out.var
            obtain ⟨p0, p1, _, _⟩ := blk2 K8.out
            have hq9 : q < w8.heap.size := cell_lt c0
            clear hq8
            have hsz := H8.out.below.size
            have HXN := hidT (show ∀ j, (Value.slice ax N cx).ownBlock = some j → w.heap.size ≤ j ∧ j ≠ w.heap.size ∧ j ≠ q from fun j e => ⟨(World.ownsRow.lt H8a.out.row j e).1, fun e' => wraps_ne H8a.out.row H8a.out.res (by decide) (e' ▸ e), fun e' => wraps_ne H8a.out.row H8a.out.var (by decide) (e' ▸ e)⟩)
            have H9 := hidT (H8a.out.since (oneB (w8.alloc (kb k3 k4)) (wb k1 k2 k3 k4)))
            have C9 := hidT (cell_four (w8.alloc (kb k3 k4)) (.int .i64 k1) (.int .i64 k2) (.int .i64 k3) (.int .i64 k4) 63)
            rw [World.size_alloc] at C9
            have O9 := hidT (wraps_own H8a.out.row HLEN.out (wb k1 k2 k3 k4))
            go_wp2_with (at_builtin; refine wpList_append_own _ rfl _ _ 37 rfl w.heap.size 63 i0 (.agg #[.int .i64 0, .int .i64 0, .int .i64 0, .int .i64 0]) 4 32 Tryd.underlying37 hii hz0 hz1 hz2 rfl (by decide) _ _ _ rfl O9.out ⟨w8.heap.size + 1, 0, none⟩ 1 1 [.int .i64 k1, .int .i64 k2, .int .i64 k3, .int .i64 k4] rfl rfl C9.out (by simp [Value.oneCell']) (by unfold maxLen; omega) (by omega) (by simp; omega) ?_; intro v' w11 hown' hgrow _; obtain ⟨gB, cB, rfl⟩ := row_form hown'; obtain ⟨y0, y1, y2, y3⟩ := blk2 ((hgrow.block q (cell_lt (blk2 H9.out.var).1) (fun e => (HXN.out _ e.symm).2.2 rfl)).trans H9.out.var))
            have V11 := hidT ((hgrow.block q (cell_lt (blk2 H9.out.var).1) (fun e => (HXN.out _ e.symm).2.2 rfl)).trans H9.out.var)
            have R11 := hidT ((hgrow.block _ (cell_lt (blk2 H9.out.res).1) (fun e => (HXN.out _ e.symm).2.1 rfl)).trans H9.out.res)
            have B11 := hidT (H9.out.below.grown hgrow H9.out.below.size (fun j e => (HXN.out j e).1))
            have W11 : Hid (Wraps w.heap.size (.slice (some ⟨gB, 0, none⟩) (N + 1) cB) (us ++ [(k1, k2, k3, k4)]) w11) := wraps_of hown' (by rw [wcells_append]; rfl) (by simp [HLEN.out])
            have H12 := hidT (SrIs.stored (ep := ep) (o := o) (mr := mr2) (lr := lr2) R11.out V11.out W11.out B11.out hpq (by rw [HPT.out, show 401 - (us ++ [(k1, k2, k3, k4)]).length = f by simp [HLEN.out]; have := HF.out.2; omega]) (by simp [HLEN.out]; omega) hl2)
            go_roundw
            case rel => exact ⟨_, _, _, _, rfl, rfl, H12⟩
            case measure =>
              rw [H12.out.rowLen, hrowl]
              simp [HLEN.out]
              omega
      · have HE := hidT (show sr = endRk l wd fnd ep (some us) by rw [HSR.out, HR.out.parsed, show 401 - us.length = 0 by rw [HLEN.out]; omega, sWs_zero]; simp)
        by_cases hw : wd = wEpoch
        · have hw' : (wd == [101, 112, 111, 99, 104]) = true := by simpa using hw
          have HW := hidT hw
          clear hw
          cases fnd with
          | false =>
            have HZ := hidT (show sr = (0, [], false) by rw [HE.out, endRk, if_neg (by simp)])
            have HT := hidT (set2 (.int .i64 0) (.slice none 0 0) HR.out.res)
            have B9 := hidT (HR.out.below.grown HT.out.2 HR.out.below.size (fun j e => by cases e; exact Nat.le_refl _))
            have P9 := hidT HT.out.1
            clear HT
            go_wp2
            generalize ((wr.setCell ⟨w.heap.size, 0, none⟩ (.int .i64 0)).setCell ⟨w.heap.size, 1, none⟩ (.slice none 0 0)) = w9 at B9 P9 ⊢
            obtain ⟨e0, e1, _, _⟩ := blk2 P9.out
            exact bodyPost_ret (v := .tuple #[rv 0 (.slice none 0 0), .bool false]) (by simp [results, Tryd.results18, go_sem, e0, e1]) rfl ⟨.slice none 0 0, by rw [HZ.out], by rw [HZ.out]; exact wraps_nil _ _, B9.out⟩
          | true =>
            go_wp2_with fail
            refine (specRekeyText_any ep HR.out.row).mono ?_
            rintro e w5 ⟨rfl, hb5⟩
            have H5 := hidT (HR.out.since hb5)
            clear hb5 c0 c1 f0 f1 d0 d1 z0 z1
            obtain ⟨c0, c1, f0, f1⟩ := blk2 H5.out.var
            obtain ⟨d0, d1, z0, z1⟩ := blk2 H5.out.res
            by_cases ht : rekText ep us = l
            · have HZ := hidT (show sr = (ep, us, true) by rw [HE.out, endRk, if_pos ⟨HW.out, rfl, ht⟩])
              rw [ht]
              clear ht
              have HT := hidT (set2 (.int .i64 ep) (.slice ax N cx) H5.out.res)
              have B9 := hidT (H5.out.below.grown HT.out.2 H5.out.below.size (fun j e => by cases e; exact Nat.le_refl _))
              have X9 := hidT (wrapsKept H5.out.row HT.out.2 (fun k e => by cases e; exact wraps_ne H5.out.row H5.out.res (by decide)))
              have P9 := hidT HT.out.1
              clear HT
              go_wp2
              generalize ((w5.setCell ⟨w.heap.size, 0, none⟩ (.int .i64 ep)).setCell ⟨w.heap.size, 1, none⟩ (.slice ax N cx)) = w9 at B9 P9 X9 ⊢
              obtain ⟨e0, e1, _, _⟩ := blk2 P9.out
              exact bodyPost_ret (v := .tuple #[rv ep (.slice ax N cx), .bool true]) (by simp [results, Tryd.results18, go_sem, e0, e1]) rfl ⟨.slice ax N cx, by rw [HZ.out], by rw [HZ.out]; exact X9.out, B9.out⟩
            · have ht' : (rekText ep us == l) = false := by simpa using ht
              have HZ := hidT (show sr = (0, [], false) by rw [HE.out, endRk, if_neg (by simp [ht])])
              clear ht
              have HT := hidT (set2 (.int .i64 0) (.slice none 0 0) H5.out.res)
              have B9 := hidT (H5.out.below.grown HT.out.2 H5.out.below.size (fun j e => by cases e; exact Nat.le_refl _))
              have P9 := hidT HT.out.1
              clear HT
              go_wp2
              generalize ((w5.setCell ⟨w.heap.size, 0, none⟩ (.int .i64 0)).setCell ⟨w.heap.size, 1, none⟩ (.slice none 0 0)) = w9 at B9 P9 ⊢
              obtain ⟨e0, e1, _, _⟩ := blk2 P9.out
              exact bodyPost_ret (v := .tuple #[rv 0 (.slice none 0 0), .bool false]) (by simp [results, Tryd.results18, go_sem, e0, e1]) rfl ⟨.slice none 0 0, by rw [HZ.out], by rw [HZ.out]; exact wraps_nil _ _, B9.out⟩
        · have hw' : (wd == [101, 112, 111, 99, 104]) = false := by simpa using hw
          have HZ := hidT (show sr = (0, [], false) by rw [HE.out, endRk, if_neg (by simp [hw])])
          clear hw
          have HT := hidT (set2 (.int .i64 0) (.slice none 0 0) HR.out.res)
          have B9 := hidT (HR.out.below.grown HT.out.2 HR.out.below.size (fun j e => by cases e; exact Nat.le_refl _))
          have P9 := hidT HT.out.1
          clear HT
          go_wp2
          generalize ((wr.setCell ⟨w.heap.size, 0, none⟩ (.int .i64 0)).setCell ⟨w.heap.size, 1, none⟩ (.slice none 0 0)) = w9 at B9 P9 ⊢
          obtain ⟨e0, e1, _, _⟩ := blk2 P9.out
          exact bodyPost_ret (v := .tuple #[rv 0 (.slice none 0 0), .bool false]) (by simp [results, Tryd.results18, go_sem, e0, e1]) rfl ⟨.slice none 0 0, by rw [HZ.out], by rw [HZ.out]; exact wraps_nil _ _, B9.out⟩
end Tx
end Go.Proofs.YtmlmlmcmhpahpaaDoor
