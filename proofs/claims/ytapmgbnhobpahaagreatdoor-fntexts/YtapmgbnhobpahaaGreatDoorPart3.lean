/- A rekey off the program's reader. -/
import Derived.Test.YtapmgbnhobpahaaGreatDoorPart2
import Derived.Defers
import Derived.Recover
import Derived.Test.YtapmgbnhobpahaaGreatDoorPart0
import Derived.Test.YtapmgbnhobpahaaGreatDoorPart1
namespace Go.Proofs.YtapmgbnhobpahaaGreatDoor
open Go.RowKit Go.Shelf
namespace Tx

/-- Wraps, each behind a blank, as long as blanks come. -/
def pWraps : Nat → List UInt8 → Option (List W4 × List UInt8)
  | 0, l => some ([], l)
  | f + 1, l => if Lib.hasPrefix l [32] = true then (pWrap (l.drop 1)).bind fun x => (pWraps f x.2).map fun y => (x.1 :: y.1, y.2) else some ([], l)
theorem pWrap_len {l r : List UInt8} {x : W4} (h : pWrap l = some (x, r)) : r.length ≤ l.length := by
  unfold pWrap at h
  cases h1 : pKey l with
  | none => simp [h1] at h
  | some k =>
    cases h2 : pNeed [62] k.2 with
    | none => simp [h1, h2] at h
    | some r2 =>
      cases h3 : pKey r2 with
      | none => simp [h1, h2, h3] at h
      | some y =>
        simp [h1, h2, h3] at h
        have a := pKey_len (k := k.1) (r := k.2) h1
        have b := pNeed_len h2
        have c := pKey_len (k := y.1) (r := y.2) h3
        rw [← h.2]; omega
theorem hasBlank {l : List UInt8} (h : Lib.hasPrefix l [32] = true) : 1 ≤ l.length := by
  simp [Lib.hasPrefix] at h
  obtain ⟨r, rfl⟩ := h
  simp
/-- How many rounds more make no difference once there are as many as bytes. -/
theorem pWraps_more : ∀ (f g : Nat) (l : List UInt8), l.length ≤ f → l.length ≤ g → pWraps f l = pWraps g l
  | 0, 0, l, _, _ => rfl
  | 0, g + 1, l, h, _ => by
    have : l = [] := List.length_eq_zero_iff.1 (by omega)
    subst this
    simp [pWraps, Lib.hasPrefix]
  | f + 1, 0, l, _, h => by
    have : l = [] := List.length_eq_zero_iff.1 (by omega)
    subst this
    simp [pWraps, Lib.hasPrefix]
  | f + 1, g + 1, l, h1, h2 => by
    by_cases hp : Lib.hasPrefix l [32] = true
    · have hl := hasBlank hp
      simp only [pWraps, hp, if_true]
      cases hw : pWrap (l.drop 1) with
      | none => rfl
      | some x =>
        have := pWrap_len (x := x.1) (r := x.2) hw
        simp only [List.length_drop] at this
        simp only [Option.bind_some]
        rw [pWraps_more f g x.2 (by omega) (by omega)]
    · simp [pWraps, hp]
abbrev pWs (l : List UInt8) : Option (List W4 × List UInt8) := pWraps l.length l
theorem pWs_yes {l l2 : List UInt8} {x : W4} (hp : Lib.hasPrefix l [32] = true) (hw : pWrap (l.drop 1) = some (x, l2)) : pWs l = (pWs l2).map fun y => (x :: y.1, y.2) := by
  have hl := hasBlank hp
  have h2 := pWrap_len hw
  simp only [List.length_drop] at h2
  obtain ⟨f, hf⟩ : ∃ f, l.length = f + 1 := ⟨l.length - 1, by omega⟩
  unfold pWs
  rw [hf]
  simp only [pWraps, hp, if_true, hw, Option.bind_some]
  rw [pWraps_more f l2.length l2 (by omega) (by omega)]
theorem pWs_gone {l : List UInt8} (hp : Lib.hasPrefix l [32] = true) (hw : pWrap (l.drop 1) = none) : pWs l = none := by
  have hl := hasBlank hp
  obtain ⟨f, hf⟩ : ∃ f, l.length = f + 1 := ⟨l.length - 1, by omega⟩
  unfold pWs
  rw [hf]
  simp only [pWraps, hp, if_true, hw]
  rfl
theorem pWs_end {l : List UInt8} (hp : Lib.hasPrefix l [32] = false) : pWs l = some ([], l) := by
  unfold pWs
  cases hl : l.length with
  | zero => rfl
  | succ f =>
    show (if Lib.hasPrefix l [32] = true then _ else _) = _
    rw [if_neg (by rw [hp]; simp)]
def pRekey (l : List UInt8) : Option ((Int × List W4) × List UInt8) :=
  (pNeed sEpoch l).bind fun r => (pNum r).bind fun x => (pWs x.2).bind fun y => if rkB x.1 y.1 = true then some ((x.1, y.1), y.2) else none
theorem rdWrap_yes {b : Nat} {ev : Value} {l l' : List UInt8} {w : World} {x : W4} (h : Rdr b l w) (hN : NoText b ev w) (hl : l.length ≤ 1048576) (hk : pWrap l = some (x, l')) :
    Calls Tryz.prog 56 #[rp b] w fun e w' => e = .returned (wv x.1 x.2.1 x.2.2.1 x.2.2.2) ∧ Rdr b l' w' ∧ w.grownBy w' (some b) := by
  refine (rdWrap_any b ev l w h hN hl).mono ?_
  rintro e w' (⟨v, l2, hv, rfl, R, g⟩ | ⟨hv, _⟩)
  · rw [hk] at hv
    simp at hv
    obtain ⟨rfl, rfl⟩ := hv
    exact ⟨rfl, R, g⟩
  · rw [hk] at hv; cases hv
theorem infoWr : (Tryz.prog.info? 56).map (fun i => (i.zero, i.size, i.bytes)) = some (some (.agg #[.int .i64 0, .int .i64 0, .int .i64 0, .int .i64 0]), 4, 32) := by kernel_rfl

/-- How many bytes a reader has still to read. -/
def restLen (b : Nat) (w : World) : Nat := match w.cell? ⟨b, 0, none⟩ with
  | some (.string s) => s.size
  | _ => 0
theorem Rdr.rest {b : Nat} {l : List UInt8} {w : World} (h : Rdr b l w) : restLen b w = l.length := by
  unfold restLen
  rw [h.cell]
  simp [ByteArray.size]
theorem wraps_ne {B j : Nat} {v : Value} {ws : List W4} {W : World} {cs : Array Value} {t : TypeId} (h : Wraps B v ws W) (hj : W.heap[j]? = some (.cells cs t)) (ht : t ≠ 56) : v.ownBlock ≠ some j := by
  intro e
  rcases h.2 with ⟨rfl, _⟩ | ⟨g, cap, cur, rfl, _, hg, _⟩
  · cases e
  · simp [Value.ownBlock] at e
    subst e
    rw [hg] at hj
    injection hj with hj
    injection hj with h1 h2
    exact ht h2.symm
theorem wraps_ne' {B j : Nat} {v : Value} {ws : List W4} {W : World} {cs : Array Value} {t : TypeId} (h : Wraps B v ws W) (hj : W.heap[j]? = some (.cells cs t)) (ht : t ≠ 56) : some j ≠ v.ownBlock := fun e => wraps_ne h hj ht e.symm
theorem wraps_own {W : World} {B n : Nat} {v : Value} {xs : List W4} (h : Wraps B v xs W) (hn : xs.length = n) (o : Obj) : (W.alloc o).ownsRow B 56 4 v n (wcells xs) := by
  subst hn
  exact World.ownsRow.alloc h o
theorem wraps_of {W : World} {B g N c : Nat} {ys : List Value} {xs : List W4} (h : W.ownsRow B 56 4 (.slice (some ⟨g, 0, none⟩) N c) N ys) (e : ys = wcells xs) (hn : xs.length = N) : Wraps B (.slice (some ⟨g, 0, none⟩) N c) xs W := by
  subst e hn
  exact h
theorem cell_four (w : World) (x y u v : Value) (t : TypeId) : ∀ j z, [x, y, u, v][j]? = some z → (w.alloc (.cells #[x, y, u, v] t)).cell? ((⟨w.heap.size, 0, none⟩ : Addr).add j) = some z := fun j z hj => by
  match j, hj with
  | 0, hj => simp at hj; subst hj; simp [Addr.add]
  | 1, hj => simp at hj; subst hj; simp [Addr.add]
  | 2, hj => simp at hj; subst hj; simp [Addr.add]
  | 3, hj => simp at hj; subst hj; simp [Addr.add]
  | j + 4, hj => simp at hj
/-- Where the reading of a rekey stands: lr is still to be read, us are the wraps so far; block w's end is the answer's, q the rekey's. -/
structure RkIs (b : Nat) (w : World) (q : Nat) (ep : Int) (l2 lr : List UInt8) (us : List W4) (x : Value) (W : World) : Prop where
  rd : Rdr b lr W
  res : W.heap[w.heap.size]? = some (rb 0 (.slice none 0 0))
  var : W.heap[q]? = some (rb ep x)
  row : Wraps w.heap.size x us W
  grown : w.grownBy W (some b)
  bLt : b < w.heap.size
  pq : w.heap.size < q
  parsed : pWs l2 = (pWs lr).map fun y => (us ++ y.1, y.2)
  len : us.length + lr.length ≤ 1048576
theorem RkIs.resLt {b : Nat} {w : World} {q : Nat} {ep : Int} {l2 lr : List UInt8} {us : List W4} {x : Value} {W : World} (h : RkIs b w q ep l2 lr us x W) : w.heap.size < W.heap.size := cell_lt (blk2 h.res).1
theorem RkIs.varLt {b : Nat} {w : World} {q : Nat} {ep : Int} {l2 lr : List UInt8} {us : List W4} {x : Value} {W : World} (h : RkIs b w q ep l2 lr us x W) : q < W.heap.size := cell_lt (blk2 h.var).1
theorem RkIs.far {b : Nat} {w : World} {q : Nat} {ep : Int} {l2 lr : List UInt8} {us : List W4} {x : Value} {W : World} (h : RkIs b w q ep l2 lr us x W) : x.ownBlock ≠ some b := wraps_ne h.row h.rd (by decide)
theorem RkIs.start {b q : Nat} {w W : World} {ep : Int} {l2 : List UInt8} (h1 : Rdr b l2 W) (h2 : W.heap[w.heap.size]? = some (rb 0 (.slice none 0 0))) (h3 : W.heap[q]? = some (rb ep (.slice none 0 0))) (h4 : w.grownBy W (some b)) (h5 : l2.length ≤ 1048576)
    (h6 : b < w.heap.size) (h7 : w.heap.size < q) : RkIs b w q ep l2 l2 [] (.slice none 0 0) W :=
  ⟨h1, h2, h3, ⟨by simp [wcells], .inl ⟨rfl, rfl⟩⟩, h4, h6, h7, by simp, by simpa using h5⟩
theorem RkIs.set {b : Nat} {w : World} {q : Nat} {ep : Int} {l2 lr : List UInt8} {us : List W4} {x : Value} {W : World} (h : RkIs b w q ep l2 lr us x W) : RkIs b w q ep l2 lr us x (W.setCell ⟨b, 0, none⟩ (.string ⟨lr.toArray⟩)) := by
  have g := setBy (b := b) W (.string ⟨lr.toArray⟩)
  have hb := h.bLt
  have hq := h.pq
  exact ⟨h.rd.set, (g.block _ h.resLt (by simp; omega)).trans h.res, (g.block _ h.varLt (by simp; omega)).trans h.var, wrapsKept h.row g (fun k e => by cases e; exact h.far), h.grown.trans g, hb, hq, h.parsed, h.len⟩
theorem RkIs.since {b : Nat} {w : World} {q : Nat} {ep : Int} {l2 lr : List UInt8} {us : List W4} {x : Value} {W W' : World} (h : RkIs b w q ep l2 lr us x W) (hb : Below W.heap.size W W') : RkIs b w q ep l2 lr us x W' :=
  ⟨h.rd.since hb, (hb.block _ h.resLt).trans h.res, (hb.block _ h.varLt).trans h.var, wrapsSince h.row hb, grown_ext h.grown hb, h.bLt, h.pq, h.parsed, h.len⟩
theorem RkIs.put {b : Nat} {w : World} {q : Nat} {ep : Int} {l2 lr : List UInt8} {us : List W4} {x : Value} {W W' : World} (h : RkIs b w q ep l2 lr us x W) (g : W.grownBy W' (some w.heap.size)) : Wraps w.heap.size x us W' ∧ Rdr b lr W' ∧ w.grownBy W' (some b) :=
  ⟨wrapsKept h.row g (fun k e => by cases e; exact wraps_ne h.row h.res (by decide)), (g.block b h.rd.lt (by have := h.bLt; simp; omega)).trans h.rd, h.grown.andThen g (fun j e => .inl (by cases e; exact Nat.le_refl _))⟩

theorem RkIs.stored {b q : Nat} {w W : World} {ep : Int} {l2 lr : List UInt8} {us : List W4} {x y : Value} (hb : b < w.heap.size) (hq : w.heap.size < q) (h1 : Rdr b lr W) (h2 : W.heap[w.heap.size]? = some (rb 0 (.slice none 0 0))) (h3 : W.heap[q]? = some (rb ep y)) (h4 : Wraps w.heap.size x us W)
    (h5 : w.grownBy W (some b)) (h6 : pWs l2 = (pWs lr).map fun y => (us ++ y.1, y.2)) (h7 : us.length + lr.length ≤ 1048576) : RkIs b w q ep l2 lr us x (W.setCell ⟨q, 1, none⟩ x) := by
  have e1 : (W.setCell ⟨q, 1, none⟩ x).heap[q]? = some (rb ep x) := by
    simp only [World.setCell, Array.getElem?_modify, h3]
    simp
  have g : W.grownBy (W.setCell ⟨q, 1, none⟩ x) (some q) := ⟨rfl, rfl, rfl, by simp [World.setCell], fun i hi hne => by
    have hq : ¬ q = i := fun e => hne (by rw [e])
    simp [World.setCell, Array.getElem?_modify, hq]⟩
  exact ⟨(g.block b h1.lt (by simp; omega)).trans h1, (g.block _ (cell_lt (blk2 h2).1) (by simp; omega)).trans h2, e1, wrapsKept h4 g (fun k e => by cases e; exact wraps_ne h4 h3 (by decide)), h5.andThen g (fun j e => .inl (by cases e; omega)), hb, hq, h6, h7⟩

set_option maxRecDepth 100000 in
set_option maxHeartbeats 4000000 in
theorem rdRekey_any (b : Nat) (ev : Value) (l : List UInt8) (w : World) (h : Rdr b l w) (hN : NoText b ev w) (hl : l.length ≤ 1048576) :
    Calls Tryz.prog 31 #[rp b] w fun e w' => (∃ ep ws x l', pRekey l = some ((ep, ws), l') ∧ e = .returned (rv ep x) ∧ Wraps w.heap.size x ws w' ∧ Rdr b l' w' ∧ w.grownBy w' (some b)) ∨ (pRekey l = none ∧ e = gave ev ∧ w.grownBy w' (some b)) := by
  obtain ⟨i0, hii, hz0, hz1, hz2⟩ := info_parts' infoWr
  have HN := hidT hN
  have hbl := h.lt
  have G0 := hidT (World.grownBy_alloc w (rb 0 (.slice none 0 0)) (some b))
  have R0 : Hid (Rdr b l (w.alloc (rb 0 (.slice none 0 0)))) := h.since (oneB _ _)
  have P0 := hidT (heap_new w (rb 0 (.slice none 0 0)))
  clear h hN
  go_enter Tryz.func31, Tryz.ntmps31
  go_wp2_with fail
  refine (need_any b ev l sEpoch _ R0.out (HN.out.grown G0.out)).mono ?_
  rintro e w1 (⟨v, l1, hv, rfl, R1, g1⟩ | ⟨hv, rfl, g1⟩)
  · obtain ⟨hm, rfl⟩ : Hid (pNeed sEpoch l = some l1) ∧ v = .tuple #[] := by
      cases hn : pNeed sEpoch l with
      | none => simp [hn] at hv
      | some x =>
        simp [hn] at hv
        obtain ⟨e1, e2⟩ := hv
        exact ⟨hidT (by rw [← e2]), e1.symm⟩
    have hl1 := Nat.le_trans (pNeed_len hm.out) hl
    have P1 := hidT ((g1.block _ (cell_lt (blk2 P0.out).1) (by simp; omega)).trans P0.out)
    have G1 := hidT (G0.out.trans g1)
    have R1 := hidT R1
    clear g1 hv
    go_wp2_with fail
    refine (number_any b ev l1 _ R1.out (HN.out.grown G1.out) hl1).mono ?_
    rintro e w2 (⟨v, l2, hv, rfl, R2, g2⟩ | ⟨hv, rfl, g2⟩)
    · obtain ⟨ep, hm2, rfl⟩ : ∃ m, Hid (pNum l1 = some (m, l2)) ∧ v = .int .i64 m := by
        cases hn : pNum l1 with
        | none => simp [hn] at hv
        | some x =>
          simp [hn] at hv
          obtain ⟨e1, e2⟩ := hv
          exact ⟨x.1, hidT (by rw [← e2]), e1.symm⟩
      have hl2 := Nat.le_trans (pNum_len hm2.out) hl1
      have P2 := hidT ((g2.block _ (cell_lt (blk2 P1.out).1) (by simp; omega)).trans P1.out)
      have G2 := hidT (G1.out.trans g2)
      have R2 := hidT R2
      have lp2 : w.heap.size < w2.heap.size := cell_lt (blk2 P2.out).1
      have P3 := hidT ((heap_old w2 (rb ep (.slice none 0 0)) lp2).trans P2.out)
      have Q3 := hidT (heap_new w2 (rb ep (.slice none 0 0)))
      have G3 := hidT (G2.out.trans (World.grownBy_alloc w2 (rb ep (.slice none 0 0)) (some b)))
      have R3 : Hid (Rdr b l2 (w2.alloc (rb ep (.slice none 0 0)))) := R2.out.since (oneB _ _)
      clear g2 hv P2 R2 P1 R1 P0 R0
      have HPR := hidT (show pRekey l = (pWs l2).bind fun y => if rkB ep y.1 = true then some ((ep, y.1), y.2) else none by simp [pRekey, hm.out, hm2.out])
      have HREL0 := hidT (RkIs.start (l2 := l2) (ep := ep) (w := w) R3.out P3.out Q3.out G3.out (by omega) hbl lp2)
      clear R3 P3 Q3 G3
      go_wp2
      generalize w2.alloc (.cells #[.int .i64 ep, .slice none 0 0] 32) = w3 at HREL0 ⊢
      have hqn : w.heap.size < w2.heap.size := lp2
      go_loopw [10] (fun _ wr => ∃ lr us x, Hid (RkIs b w w2.heap.size ep l2 lr us x wr)) (fun _ wr => restLen b wr)
      case atStart => exact ⟨l2, [], _, HREL0⟩
      case round =>
        obtain ⟨lr, us, x, HR⟩ := hrel
        clear HREL0
        obtain ⟨ax, cx, hx⟩ := wrapsRow HR.out.row
        obtain ⟨n, HLEN⟩ : ∃ n, Hid (us.length = n) := ⟨_, rfl⟩
        rw [HLEN.out] at hx
        subst hx
        have hlr := HR.out.len
        rw [HLEN.out] at hlr
        have hrest := HR.out.rd.rest
        go_wp2_with fail
        refine (takes_any b lr [32] wr HR.out.rd).mono ?_
        rintro e w4 ⟨rfl, hw4⟩
        cases hp : Lib.hasPrefix lr [32] with
        | false =>
          rw [trim_not hp] at hw4
          have H4 := hidT (show RkIs b w w2.heap.size ep l2 lr us (.slice ax n cx) w4 by rw [hw4]; exact HR.out.set)
          clear hw4
          have HPE := hidT (show pRekey l = if rkB ep us = true then some ((ep, us), lr) else none by rw [HPR.out, H4.out.parsed, pWs_end hp]; simp)
          obtain ⟨c0, c1, f0, f1⟩ := blk2 H4.out.var
          go_wp2_with fail
          refine (rekeyOk_any ep H4.out.row).mono ?_
          rintro e w5 ⟨rfl, b5⟩
          have H5 := hidT (H4.out.since b5)
          clear b5 c0 c1 f0 f1 H4
          obtain ⟨c0, c1, f0, f1⟩ := blk2 H5.out.var
          obtain ⟨d0, d1, z0, z1⟩ := blk2 H5.out.res
          cases hrk : rkB ep us with
          | true =>
            have HT := hidT (set2 (.int .i64 ep) (.slice ax n cx) H5.out.res)
            have HO := hidT (H5.out.put HT.out.2)
            have P6 := hidT HT.out.1
            clear HT
            go_wp2
            generalize ((w5.setCell ⟨w.heap.size, 0, none⟩ (.int .i64 ep)).setCell ⟨w.heap.size, 1, none⟩ (.slice ax n cx)) = w6 at HO P6 ⊢
            obtain ⟨e0, e1, _, _⟩ := blk2 P6.out
            refine bodyPost_ret (v := rv ep (.slice ax n cx)) (by simp [results, Tryz.results31, go_sem, e0, e1]) rfl (.inl ⟨ep, us, _, lr, ?_, rfl, HO.out.1, HO.out.2.1, HO.out.2.2⟩)
            rw [HPE.out, if_pos hrk]
          | false =>
            go_wp2_with (go_at_call 45; refine (giveUp_any b ev _ (HN.out.grown H5.out.grown)).mono ?_; rintro e w' ⟨rfl, rfl⟩)
            exact ⟨rfl, .inr ⟨by rw [HPE.out, if_neg (by simp [hrk])], rfl, H5.out.grown⟩⟩
        | true =>
          rw [trim_is hp] at hw4
          have H4 := hidT (show RkIs b w w2.heap.size ep l2 (lr.drop 1) us (.slice ax n cx) w4 ∨ True from .inr trivial)
          have g4 := hidT (show wr.grownBy w4 (some b) by rw [hw4]; exact setBy _ _)
          have R4 := hidT (show Rdr b (lr.drop 1) w4 by rw [hw4]; exact HR.out.rd.set)
          have V4 := hidT ((g4.out.block _ HR.out.varLt (by have := HR.out.bLt; simp; omega)).trans HR.out.var)
          have S4 := hidT ((g4.out.block _ HR.out.resLt (by have := HR.out.bLt; simp; omega)).trans HR.out.res)
          have W4' := hidT (wrapsKept HR.out.row g4.out (fun k e => by cases e; exact HR.out.far))
          have G4 := hidT (HR.out.grown.trans g4.out)
          have hld : (lr.drop 1).length ≤ 1048576 := by simp; omega
          clear hw4 H4
          cases hk : pWrap (lr.drop 1) with
          | none =>
            have HPN := hidT (show pRekey l = none by rw [HPR.out, HR.out.parsed, pWs_gone hp hk]; rfl)
            have HKN := hidT hk
            clear hk
            obtain ⟨c0, c1, f0, f1⟩ := blk2 V4.out
            have R4d : Hid (Rdr b (lr.drop 1) w4.drew) := R4.out
            have N4d : Hid (NoText b ev w4.drew) := (HN.out.grown G4.out).since (Below.refl _ _).drew
            have G4d := hidT (grown_ext G4.out (Below.refl _ _).drew)
            go_wp2
            refine wp_region_any (by kernel_rfl) ?_
            try (change wpAny _ _ _ _ _ _ _ (World.drew _))
            refine wpAny_take (i := 0) (v := .pointer (some ⟨w2.heap.size, 1, none⟩)) rfl (by kernel_rfl) (by kernel_rfl) (by kernel_rfl) (fun _ _ _ h => h) (Or.inl ⟨by rfl, fun w => by go_simp⟩) ?_
            refine wpAny_take (i := 2) (v := rp b) rfl (by kernel_rfl) (by kernel_rfl) (by kernel_rfl) (fun _ _ _ h => h) (Or.inl ⟨by rfl, fun w => by go_simp⟩) ?_
            refine wpAny_ready (rs := [1, 3]) (by kernel_rfl) (by simp) ?_
            refine AllReady.cons rfl (fun K hK => ?_) (AllReady.cons rfl (fun K hK => ?_) AllReady.nil)
            · go_simp
              refine hK _ _ ?_
              clear hK K
              refine wpAny_ready (rs := [3]) (by kernel_rfl) (by simp) ?_
              refine AllReady.cons rfl (fun K hK => ?_) AllReady.nil
              go_simp
              refine (rdWrap_any b ev _ _ R4d.out N4d.out hld).mono ?_
              rintro e w5 (⟨v, l3, hv, _⟩ | ⟨_, rfl, g5⟩)
              · rw [HKN.out] at hv
                cases hv
              · exact ⟨rfl, .inr ⟨HPN.out, rfl, G4d.out.trans g5⟩⟩
            · go_simp
              refine (rdWrap_any b ev _ _ R4d.out N4d.out hld).mono ?_
              rintro e w5 (⟨v, l3, hv, _⟩ | ⟨_, rfl, g5⟩)
              · rw [HKN.out] at hv
                cases hv
              · exact ⟨rfl, .inr ⟨HPN.out, rfl, G4d.out.trans g5⟩⟩
          | some y =>
            obtain ⟨⟨a, b', c, d⟩, l3⟩ := y
            have HK := hidT hk
            have HPS := hidT (show pWs l2 = (pWs l3).map fun y => ((us ++ [(a, b', c, d)]) ++ y.1, y.2) by rw [HR.out.parsed, pWs_yes hp hk]; simp [Function.comp_def])
            have hl3 := pWrap_len hk
            simp only [List.length_drop] at hl3
            have hl1 := hasBlank hp
            clear hk
            obtain ⟨c0, c1, f0, f1⟩ := blk2 V4.out
            have R4d : Hid (Rdr b (lr.drop 1) w4.drew) := R4.out
            have N4d : Hid (NoText b ev w4.drew) := (HN.out.grown G4.out).since (Below.refl _ _).drew
            have W4d : Hid (Wraps w.heap.size (.slice ax n cx) us w4.drew) := wrapsSince W4'.out (Below.refl _ _).drew
            have V4d : Hid (w4.drew.heap[w2.heap.size]? = some (rb ep (.slice ax n cx))) := V4.out
            have S4d : Hid (w4.drew.heap[w.heap.size]? = some (rb 0 (.slice none 0 0))) := S4.out
            have G4d := hidT (grown_ext G4.out (Below.refl _ _).drew)
            have hbb := HR.out.bLt
            have hz4 : w.heap.size ≤ w4.drew.heap.size := G4d.out.size
            have hneq : some w2.heap.size ≠ some b := by simp; omega
            have hnep : some w.heap.size ≠ some b := by simp; omega
            clear W4' V4 S4 R4 G4 g4
            go_wp2
            refine wp_region_any (by kernel_rfl) ?_
            try (change wpAny _ _ _ _ _ _ _ (World.drew _))
            refine wpAny_take (i := 0) (v := .pointer (some ⟨w2.heap.size, 1, none⟩)) rfl (by kernel_rfl) (by kernel_rfl) (by kernel_rfl) (fun _ _ _ h => h) (Or.inl ⟨by rfl, fun w => by go_simp⟩) ?_
            refine wpAny_take (i := 2) (v := rp b) rfl (by kernel_rfl) (by kernel_rfl) (by kernel_rfl) (fun _ _ _ h => h) (Or.inl ⟨by rfl, fun w => by go_simp⟩) ?_
            refine wpAny_ready (rs := [1, 3]) (by kernel_rfl) (by simp) ?_
            refine AllReady.cons rfl (fun K hK => ?_) (AllReady.cons rfl (fun K hK => ?_) AllReady.nil)
            · go_simp
              refine hK _ _ ?_
              clear hK K
              refine wpAny_ready (rs := [3]) (by kernel_rfl) (by simp) ?_
              refine AllReady.cons rfl (fun K hK => ?_) AllReady.nil
              go_simp
              refine (rdWrap_yes (l := lr.drop 1) R4d.out N4d.out hld HK.out).mono ?_
              rintro e w5 ⟨rfl, R5, g5⟩
              have V5 := hidT ((g5.block _ ((Array.getElem?_eq_some_iff.1 V4d.out).1) hneq).trans V4d.out)
              have S5 := hidT ((g5.block _ ((Array.getElem?_eq_some_iff.1 S4d.out).1) hnep).trans S4d.out)
              have W5 := hidT (wrapsKept W4d.out g5 (fun k e => by cases e; exact wraps_ne W4d.out R4d.out (by decide)))
              have G5 := hidT (G4d.out.trans g5)
              have R5 := hidT R5
              have hs5 := g5.size
              clear g5 c0 c1 f0 f1
              obtain ⟨c0, c1, f0, f1⟩ := blk2 V5.out
              refine hK _ _ ?_
              clear hK K
              refine wpAny_ready (rs := [4]) (by kernel_rfl) (by simp) ?_
              refine AllReady.cons rfl (fun K hK => ?_) AllReady.nil
              go_simp
              refine hK _ _ ?_
              clear hK K
              have V6 := hidT ((heap_old w5 (.cells #[.int .i64 a, .int .i64 b', .int .i64 c, .int .i64 d] 56) ((Array.getElem?_eq_some_iff.1 V5.out).1)).trans V5.out)
              clear c0 c1 f0 f1
              obtain ⟨c0, c1, f0, f1⟩ := blk2 V6.out
              refine wpAny_ready (rs := [5]) (by kernel_rfl) (by simp) ?_
              refine AllReady.cons rfl (fun K hK => ?_) AllReady.nil
              refine step_append_s _ (by rfl) _ _ _ (by rfl) w.heap.size 56 i0 (.agg #[.int .i64 0, .int .i64 0, .int .i64 0, .int .i64 0]) 4 32 Tryz.underlying30 hii hz0 hz1 hz2 rfl (by omega) (.slice ax n cx) n _ (by rfl) (wraps_own W5.out HLEN.out _) ⟨w5.heap.size, 0, none⟩ 1 _ [.int .i64 a, .int .i64 b', .int .i64 c, .int .i64 d] (by rfl) (by rfl) (cell_four _ _ _ _ _ _) (by simp [Value.oneCell']) (by omega) (by unfold maxLen; omega) (by omega) (Nat.le_trans hz4 (Nat.le_trans hs5 (by simp))) _ rfl ?_
              intro gB cB wB hownB hgB hatB hltB
              refine hK _ _ ?_
              clear hK K
              have hx5 : Hid (∀ j, (Value.slice ax n cx).ownBlock = some j → w.heap.size ≤ j ∧ j ≠ b ∧ j ≠ w.heap.size ∧ j ≠ w2.heap.size) := fun j e => ⟨(W5.out.lt j e).1, fun e' => wraps_ne W5.out R5.out (by decide) (e' ▸ e), fun e' => wraps_ne W5.out S5.out (by decide) (e' ▸ e), fun e' => wraps_ne W5.out V5.out (by decide) (e' ▸ e)⟩
              have V7 := hidT ((hgB.block _ ((Array.getElem?_eq_some_iff.1 V6.out).1) (fun e => (hx5.out _ e.symm).2.2.2 rfl)).trans V6.out)
              have S7 := hidT ((hgB.block _ (Nat.lt_of_lt_of_le ((Array.getElem?_eq_some_iff.1 S5.out).1) (by simp)) (fun e => (hx5.out _ e.symm).2.2.1 rfl)).trans ((heap_old w5 (.cells #[.int .i64 a, .int .i64 b', .int .i64 c, .int .i64 d] 56) ((Array.getElem?_eq_some_iff.1 S5.out).1)).trans S5.out))
              have R7 : Hid (Rdr b l3 wB) := (hgB.block b (Nat.lt_of_lt_of_le R5.out.lt (by simp)) (fun e => (hx5.out _ e.symm).2.1 rfl)).trans (R5.out.since (oneB w5 (.cells #[.int .i64 a, .int .i64 b', .int .i64 c, .int .i64 d] 56)))
              have G7 := hidT ((grown_ext G5.out (oneB w5 (.cells #[.int .i64 a, .int .i64 b', .int .i64 c, .int .i64 d] 56))).andThen hgB (fun j e => .inl (hx5.out j e).1))
              have W7 : Hid (Wraps w.heap.size (.slice (some ⟨gB, 0, none⟩) (n + 1) cB) (us ++ [(a, b', c, d)]) wB) := wraps_of hownB (by rw [wcells_append]; rfl) (by simp [HLEN.out])
              clear c0 c1 f0 f1 hgB hownB
              obtain ⟨c0, c1, f0, f1⟩ := blk2 V7.out
              refine wpAny_take (i := 6) (v := .pointer (some ⟨w2.heap.size, 1, none⟩)) rfl (by kernel_rfl) (by kernel_rfl) (by kernel_rfl) (fun _ _ _ h => h) (Or.inl ⟨by rfl, fun w => by go_simp⟩) ?_
              refine wpAny_ready (rs := [7]) (by kernel_rfl) (by simp) ?_
              refine AllReady.cons rfl (fun K hK => ?_) AllReady.nil
              go_simp
              refine hK _ _ ?_
              clear hK K
              refine wpAny_done (by kernel_rfl) ?_ _
              have H8 := hidT (RkIs.stored hbb lp2 R7.out S7.out V7.out W7.out G7.out HPS.out (by simp [HLEN.out]; omega))
              clear V7 S7 R7 G7 W7 c0 c1 f0 f1
              go_wp2
              go_roundw
              case rel => exact ⟨_, _, _, H8⟩
              case measure =>
                rw [H8.out.rd.rest, hrest]
                omega
            · go_simp
              refine (rdWrap_yes (l := lr.drop 1) R4d.out N4d.out hld HK.out).mono ?_
              rintro e w5 ⟨rfl, R5, g5⟩
              have V5 := hidT ((g5.block _ ((Array.getElem?_eq_some_iff.1 V4d.out).1) hneq).trans V4d.out)
              have S5 := hidT ((g5.block _ ((Array.getElem?_eq_some_iff.1 S4d.out).1) hnep).trans S4d.out)
              have W5 := hidT (wrapsKept W4d.out g5 (fun k e => by cases e; exact wraps_ne W4d.out R4d.out (by decide)))
              have G5 := hidT (G4d.out.trans g5)
              have R5 := hidT R5
              have hs5 := g5.size
              clear g5 c0 c1 f0 f1
              obtain ⟨c0, c1, f0, f1⟩ := blk2 V5.out
              refine hK _ _ ?_
              clear hK K
              refine wpAny_ready (rs := [1, 4]) (by kernel_rfl) (by simp) ?_
              refine AllReady.cons rfl (fun K hK => ?_) (AllReady.cons rfl (fun K hK => ?_) AllReady.nil)
              · go_simp
                refine hK _ _ ?_
                clear hK K
                refine wpAny_ready (rs := [4]) (by kernel_rfl) (by simp) ?_
                refine AllReady.cons rfl (fun K hK => ?_) AllReady.nil
                go_simp
                refine hK _ _ ?_
                clear hK K
                have V6 := hidT ((heap_old w5 (.cells #[.int .i64 a, .int .i64 b', .int .i64 c, .int .i64 d] 56) ((Array.getElem?_eq_some_iff.1 V5.out).1)).trans V5.out)
                clear c0 c1 f0 f1
                obtain ⟨c0, c1, f0, f1⟩ := blk2 V6.out
                refine wpAny_ready (rs := [5]) (by kernel_rfl) (by simp) ?_
                refine AllReady.cons rfl (fun K hK => ?_) AllReady.nil
                refine step_append_s _ (by rfl) _ _ _ (by rfl) w.heap.size 56 i0 (.agg #[.int .i64 0, .int .i64 0, .int .i64 0, .int .i64 0]) 4 32 Tryz.underlying30 hii hz0 hz1 hz2 rfl (by omega) (.slice ax n cx) n _ (by rfl) (wraps_own W5.out HLEN.out _) ⟨w5.heap.size, 0, none⟩ 1 _ [.int .i64 a, .int .i64 b', .int .i64 c, .int .i64 d] (by rfl) (by rfl) (cell_four _ _ _ _ _ _) (by simp [Value.oneCell']) (by omega) (by unfold maxLen; omega) (by omega) (Nat.le_trans hz4 (Nat.le_trans hs5 (by simp))) _ rfl ?_
                intro gB cB wB hownB hgB hatB hltB
                refine hK _ _ ?_
                clear hK K
                have hx5 : Hid (∀ j, (Value.slice ax n cx).ownBlock = some j → w.heap.size ≤ j ∧ j ≠ b ∧ j ≠ w.heap.size ∧ j ≠ w2.heap.size) := fun j e => ⟨(W5.out.lt j e).1, fun e' => wraps_ne W5.out R5.out (by decide) (e' ▸ e), fun e' => wraps_ne W5.out S5.out (by decide) (e' ▸ e), fun e' => wraps_ne W5.out V5.out (by decide) (e' ▸ e)⟩
                have V7 := hidT ((hgB.block _ ((Array.getElem?_eq_some_iff.1 V6.out).1) (fun e => (hx5.out _ e.symm).2.2.2 rfl)).trans V6.out)
                have S7 := hidT ((hgB.block _ (Nat.lt_of_lt_of_le ((Array.getElem?_eq_some_iff.1 S5.out).1) (by simp)) (fun e => (hx5.out _ e.symm).2.2.1 rfl)).trans ((heap_old w5 (.cells #[.int .i64 a, .int .i64 b', .int .i64 c, .int .i64 d] 56) ((Array.getElem?_eq_some_iff.1 S5.out).1)).trans S5.out))
                have R7 : Hid (Rdr b l3 wB) := (hgB.block b (Nat.lt_of_lt_of_le R5.out.lt (by simp)) (fun e => (hx5.out _ e.symm).2.1 rfl)).trans (R5.out.since (oneB w5 (.cells #[.int .i64 a, .int .i64 b', .int .i64 c, .int .i64 d] 56)))
                have G7 := hidT ((grown_ext G5.out (oneB w5 (.cells #[.int .i64 a, .int .i64 b', .int .i64 c, .int .i64 d] 56))).andThen hgB (fun j e => .inl (hx5.out j e).1))
                have W7 : Hid (Wraps w.heap.size (.slice (some ⟨gB, 0, none⟩) (n + 1) cB) (us ++ [(a, b', c, d)]) wB) := wraps_of hownB (by rw [wcells_append]; rfl) (by simp [HLEN.out])
                clear c0 c1 f0 f1 hgB hownB
                obtain ⟨c0, c1, f0, f1⟩ := blk2 V7.out
                refine wpAny_take (i := 6) (v := .pointer (some ⟨w2.heap.size, 1, none⟩)) rfl (by kernel_rfl) (by kernel_rfl) (by kernel_rfl) (fun _ _ _ h => h) (Or.inl ⟨by rfl, fun w => by go_simp⟩) ?_
                refine wpAny_ready (rs := [7]) (by kernel_rfl) (by simp) ?_
                refine AllReady.cons rfl (fun K hK => ?_) AllReady.nil
                go_simp
                refine hK _ _ ?_
                clear hK K
                refine wpAny_done (by kernel_rfl) ?_ _
                have H8 := hidT (RkIs.stored hbb lp2 R7.out S7.out V7.out W7.out G7.out HPS.out (by simp [HLEN.out]; omega))
                clear V7 S7 R7 G7 W7 c0 c1 f0 f1
                go_wp2
                go_roundw
                case rel => exact ⟨_, _, _, H8⟩
                case measure =>
                  rw [H8.out.rd.rest, hrest]
                  omega
              · go_simp
                refine hK _ _ ?_
                clear hK K
                have V6 := hidT ((heap_old w5 (.cells #[.int .i64 a, .int .i64 b', .int .i64 c, .int .i64 d] 56) ((Array.getElem?_eq_some_iff.1 V5.out).1)).trans V5.out)
                clear c0 c1 f0 f1
                obtain ⟨c0, c1, f0, f1⟩ := blk2 V6.out
                refine wpAny_ready (rs := [1]) (by kernel_rfl) (by simp) ?_
                refine AllReady.cons rfl (fun K hK => ?_) AllReady.nil
                go_simp
                refine hK _ _ ?_
                clear hK K
                refine wpAny_ready (rs := [5]) (by kernel_rfl) (by simp) ?_
                refine AllReady.cons rfl (fun K hK => ?_) AllReady.nil
                refine step_append_s _ (by rfl) _ _ _ (by rfl) w.heap.size 56 i0 (.agg #[.int .i64 0, .int .i64 0, .int .i64 0, .int .i64 0]) 4 32 Tryz.underlying30 hii hz0 hz1 hz2 rfl (by omega) (.slice ax n cx) n _ (by rfl) (wraps_own W5.out HLEN.out _) ⟨w5.heap.size, 0, none⟩ 1 _ [.int .i64 a, .int .i64 b', .int .i64 c, .int .i64 d] (by rfl) (by rfl) (cell_four _ _ _ _ _ _) (by simp [Value.oneCell']) (by omega) (by unfold maxLen; omega) (by omega) (Nat.le_trans hz4 (Nat.le_trans hs5 (by simp))) _ rfl ?_
                intro gB cB wB hownB hgB hatB hltB
                refine hK _ _ ?_
                clear hK K
                have hx5 : Hid (∀ j, (Value.slice ax n cx).ownBlock = some j → w.heap.size ≤ j ∧ j ≠ b ∧ j ≠ w.heap.size ∧ j ≠ w2.heap.size) := fun j e => ⟨(W5.out.lt j e).1, fun e' => wraps_ne W5.out R5.out (by decide) (e' ▸ e), fun e' => wraps_ne W5.out S5.out (by decide) (e' ▸ e), fun e' => wraps_ne W5.out V5.out (by decide) (e' ▸ e)⟩
                have V7 := hidT ((hgB.block _ ((Array.getElem?_eq_some_iff.1 V6.out).1) (fun e => (hx5.out _ e.symm).2.2.2 rfl)).trans V6.out)
                have S7 := hidT ((hgB.block _ (Nat.lt_of_lt_of_le ((Array.getElem?_eq_some_iff.1 S5.out).1) (by simp)) (fun e => (hx5.out _ e.symm).2.2.1 rfl)).trans ((heap_old w5 (.cells #[.int .i64 a, .int .i64 b', .int .i64 c, .int .i64 d] 56) ((Array.getElem?_eq_some_iff.1 S5.out).1)).trans S5.out))
                have R7 : Hid (Rdr b l3 wB) := (hgB.block b (Nat.lt_of_lt_of_le R5.out.lt (by simp)) (fun e => (hx5.out _ e.symm).2.1 rfl)).trans (R5.out.since (oneB w5 (.cells #[.int .i64 a, .int .i64 b', .int .i64 c, .int .i64 d] 56)))
                have G7 := hidT ((grown_ext G5.out (oneB w5 (.cells #[.int .i64 a, .int .i64 b', .int .i64 c, .int .i64 d] 56))).andThen hgB (fun j e => .inl (hx5.out j e).1))
                have W7 : Hid (Wraps w.heap.size (.slice (some ⟨gB, 0, none⟩) (n + 1) cB) (us ++ [(a, b', c, d)]) wB) := wraps_of hownB (by rw [wcells_append]; rfl) (by simp [HLEN.out])
                clear c0 c1 f0 f1 hgB hownB
                obtain ⟨c0, c1, f0, f1⟩ := blk2 V7.out
                refine wpAny_take (i := 6) (v := .pointer (some ⟨w2.heap.size, 1, none⟩)) rfl (by kernel_rfl) (by kernel_rfl) (by kernel_rfl) (fun _ _ _ h => h) (Or.inl ⟨by rfl, fun w => by go_simp⟩) ?_
                refine wpAny_ready (rs := [7]) (by kernel_rfl) (by simp) ?_
                refine AllReady.cons rfl (fun K hK => ?_) AllReady.nil
                go_simp
                refine hK _ _ ?_
                clear hK K
                refine wpAny_done (by kernel_rfl) ?_ _
                have H8 := hidT (RkIs.stored hbb lp2 R7.out S7.out V7.out W7.out G7.out HPS.out (by simp [HLEN.out]; omega))
                clear V7 S7 R7 G7 W7 c0 c1 f0 f1
                go_wp2
                go_roundw
                case rel => exact ⟨_, _, _, H8⟩
                case measure =>
                  rw [H8.out.rd.rest, hrest]
                  omega
    · exact ⟨rfl, .inr ⟨by
        have : pNum l1 = none := by simpa using hv
        simp [pRekey, hm.out, this], rfl, G1.out.trans g2⟩⟩
  · exact ⟨rfl, .inr ⟨by
      have : pNeed sEpoch l = none := by simpa using hv
      simp [pRekey, this], rfl, G0.out.trans g1⟩⟩
end Tx
end Go.Proofs.YtapmgbnhobpahaaGreatDoor
/- What is read whole: readWhole of the program at rekeys. A part that gives up answers false and the zero rekey. -/
namespace Go.Proofs.YtapmgbnhobpahaaGreatDoor
open Go.RowKit Go.Shelf
namespace Tx

theorem catchRk_panicking (p q : Nat) (x : Int) (y : Value) (z : Bool) (u : TypeId) (pv : Value) (older : List PanicEntry) (w : World) (hp : w.heap[p]? = some (rb x y)) (hq : w.heap[q]? = some (bb z)) (hpq : p ≠ q) :
    CallsD Tryz.prog 55 #[.pointer (some ⟨p, 0, none⟩), .pointer (some ⟨q, 0, none⟩)] (.panicking ({ v := .iface u pv, recovered := false } :: older)) w fun e u' w' =>
      e = .returned (.tuple #[]) ∧ u' = .panicking ({ v := .iface u pv, recovered := true } :: older) ∧ w' = (((w.setCell ⟨p, 0, none⟩ (.int .i64 0)).setCell ⟨p, 1, none⟩ (.slice none 0 0)).setCell ⟨q, 0, none⟩ (.bool false)).alloc (rb 0 (.slice none 0 0)) := by
  refine callsD_of_wpS Tryz.func55 rfl fun c₀ cs hu => ?_
  apply wpS_seq
  apply wpS_region
  simp [wpOpsS, go_sem, recoverD, hu, Tryz.ntmps55, Exit.thenS]
  refine wpS_cond (t := true) (by simp [Act.eval, Array.replicate]) ?_
  simp only [if_true]
  obtain ⟨c0, c1, f0, f1⟩ := blk2 hp
  have d0 : w.cell? ⟨q, 0, none⟩ = some (.bool z) := by simp [World.cell?, hq]
  have z0 : w.frozen? ⟨q, 0, none⟩ = false := by simp [World.frozen?, hq]
  have lp : p < w.heap.size := cell_lt c0
  have lq : q < w.heap.size := cell_lt d0
  refine wpS_of_wp ?_
  change Code.wp Tryz.prog _ _ { tmps := #[.pointer (some ⟨p, 0, none⟩), .pointer (some ⟨q, 0, none⟩), undef, .iface u pv, .bool true, undef], defers := [] } w
  go_wp2
  simp [bodyPostS, results, Tryz.results55]

theorem catchRk_idle (p q : Addr) (w : World) :
    CallsD Tryz.prog 55 #[.pointer (some p), .pointer (some q)] .returning w fun e u' w' => e = .returned (.tuple #[]) ∧ u' = .returning ∧ w' = w := by
  refine callsD_of_wpS Tryz.func55 rfl fun c₀ cs hu => ?_
  apply wpS_seq
  apply wpS_region
  simp [wpOpsS, go_sem, recoverD, hu, Tryz.ntmps55, Exit.thenS]
  refine wpS_cond (t := false) (by simp [Act.eval, Array.replicate]) ?_
  simp only [Bool.false_eq_true, if_false]
  refine wpS_of_wp (wp_skip ?_)
  cases c₀
  simp_all [bodyPostS, results, Tryz.results55]

/-- What the deferred closure lays where the body gave up. -/
theorem caughtRk {w1 : World} {p q : Nat} {x : Int} {y : Value} {z : Bool} (hp : w1.heap[p]? = some (rb x y)) (hq : w1.heap[q]? = some (bb z)) (hpq : p ≠ q) :
    ∃ w2 : World, w2 = (((w1.setCell ⟨p, 0, none⟩ (.int .i64 0)).setCell ⟨p, 1, none⟩ (.slice none 0 0)).setCell ⟨q, 0, none⟩ (.bool false)).alloc (rb 0 (.slice none 0 0)) ∧
      w2.cell? ⟨p, 0, none⟩ = some (.int .i64 0) ∧ w2.cell? ⟨p, 1, none⟩ = some (.slice none 0 0) ∧ w2.cell? ⟨q, 0, none⟩ = some (.bool false) ∧ (∀ i, i < w1.heap.size → i ≠ p → i ≠ q → w2.heap[i]? = w1.heap[i]?) ∧ w2.os = w1.os ∧ w2.tape = w1.tape ∧ w2.output = w1.output ∧ w1.heap.size ≤ w2.heap.size := by
  refine ⟨_, rfl, ?_⟩
  obtain ⟨s1, s2⟩ := set2 (.int .i64 0) (.slice none 0 0) hp
  have hq1 := (s2.block q (by
    rcases Nat.lt_or_ge q w1.heap.size with h | h
    · exact h
    · simp [Array.getElem?_eq_none h] at hq) (by simpa using fun e => hpq e.symm)).trans hq
  have hz := s2.size
  have lp : p < w1.heap.size := cell_lt (blk2 hp).1
  have so := s2.os
  have st := s2.tape
  have su := s2.output
  have sb := s2.block
  generalize ((w1.setCell ⟨p, 0, none⟩ (.int .i64 0)).setCell ⟨p, 1, none⟩ (.slice none 0 0)) = wa at s1 hq1 hz so st su sb ⊢
  have g := setBy (b := q) wa (.bool false)
  have e1 : (wa.setCell ⟨q, 0, none⟩ (.bool false)).heap[q]? = some (bb false) := by
    simp only [World.setCell, Array.getElem?_modify, hq1]
    simp
  have e2 := (g.block p (cell_lt (blk2 s1).1) (by simpa using fun e => hpq e)).trans s1
  have go := g.os
  have gt := g.tape
  have gu := g.output
  have gz := g.size
  have gb := g.block
  generalize wa.setCell ⟨q, 0, none⟩ (.bool false) = wb at e1 e2 go gt gu gz gb ⊢
  have f1 := (heap_old wb (rb 0 (.slice none 0 0)) (cell_lt (blk2 e2).1)).trans e2
  have lq : q < wb.heap.size := (Array.getElem?_eq_some_iff.1 e1).1
  have f2 := (heap_old wb (rb 0 (.slice none 0 0)) lq).trans e1
  obtain ⟨c0, c1, _, _⟩ := blk2 f1
  refine ⟨c0, c1, by simp [World.cell?, f2], fun i hi h1 h2 => ?_, ?_, ?_, ?_, ?_⟩
  · rw [heap_old wb (rb 0 (.slice none 0 0)) (by omega), gb i (by omega) (by simpa using fun e => h2 e), sb i hi (by simpa using fun e => h1 e)]
  · exact (show (wb.alloc (rb 0 (.slice none 0 0))).os = wb.os from rfl).trans (go.trans so)
  · exact (show (wb.alloc (rb 0 (.slice none 0 0))).tape = wb.tape from rfl).trans (gt.trans st)
  · exact (show (wb.alloc (rb 0 (.slice none 0 0))).output = wb.output from rfl).trans (gu.trans su)
  · rw [World.size_alloc]; omega
/-- What is read, if nothing stands behind it. -/
def wholeRk (l : List UInt8) : Int × List W4 × Bool := match pRekey l with
  | some (x, []) => (x.1, x.2, true)
  | _ => (0, [], false)
theorem wholeRk_some {l : List UInt8} {x : Int × List W4} (h : pRekey l = some (x, [])) : wholeRk l = (x.1, x.2, true) := by simp [wholeRk, h]
theorem wholeRk_more {l : List UInt8} {x : Int × List W4} {y : UInt8} {r : List UInt8} (h : pRekey l = some (x, y :: r)) : wholeRk l = (0, [], false) := by simp [wholeRk, h]
theorem wholeRk_none {l : List UInt8} (h : pRekey l = none) : wholeRk l = (0, [], false) := by simp [wholeRk, h]
abbrev rkFn (b : Nat) : Value := .func (.func 31) #[rp b] #[]
theorem wraps_low {B B' : Nat} {v : Value} {ws : List W4} {W : World} (h : Wraps B v ws W) (hl : B' ≤ B) : Wraps B' v ws W := by
  refine ⟨h.1, ?_⟩
  rcases h.2 with h | ⟨g, cap, cur, e, h1, h2⟩
  · exact .inl h
  · exact .inr ⟨g, cap, cur, e, Nat.le_trans hl h1, h2⟩
theorem wraps_nil (B : Nat) (W : World) : Wraps B (.slice none 0 0) [] W := ⟨by simp [wcells], .inl ⟨rfl, rfl⟩⟩

set_option maxRecDepth 100000 in
set_option maxHeartbeats 1000000 in
theorem wholeRk_any (b : Nat) (ev : Value) (l : List UInt8) (w : World) (h : Rdr b l w) (hN : NoText b ev w) (hl : l.length ≤ 1048576) :
    Calls Tryz.prog 30 #[rp b, rkFn b] w fun e w' => ∃ x, e = .returned (.tuple #[rv (wholeRk l).1 x, .bool (wholeRk l).2.2]) ∧ Wraps w.heap.size x (wholeRk l).2.1 w' ∧ w.grownBy w' (some b) := by
  have hmf : ∀ (fn : Fn) (first cap : Array Value) (w : World), (Instr.makeFunc fn first cap).run Tryz.prog w = .ok (.func fn first cap) w := fun _ _ _ _ => rfl
  have HR := hidT h
  have HN := hidT hN
  have hbl := h.lt
  have G0 := hidT (((World.grownBy.refl w (some b)).trans (World.grownBy_alloc w (rb 0 (.slice none 0 0)) (some b))).trans (World.grownBy_alloc _ (bb false) (some b)))
  have R0 : Hid (Rdr b l ((w.alloc (rb 0 (.slice none 0 0))).alloc (bb false))) := (h.since (oneB _ _)).since (oneB _ _)
  have P0 := hidT (show ((w.alloc (rb 0 (.slice none 0 0))).alloc (bb false)).heap[w.heap.size]? = some (rb 0 (.slice none 0 0)) from (heap_old _ _ (by simp)).trans (heap_new _ _))
  have Q0 := hidT (show ((w.alloc (rb 0 (.slice none 0 0))).alloc (bb false)).heap[w.heap.size + 1]? = some (bb false) by have := heap_new (w.alloc (rb 0 (.slice none 0 0))) (bb false); rwa [World.size_alloc] at this)
  clear h hN
  go_enter_defers Tryz.func30, Tryz.ntmps30
  go_wp2_with fail
  refine (rdRekey_any b ev l _ R0.out (HN.out.grown G0.out) hl).mono ?_
  rintro e w1 (⟨k, ws, m, l', hpo, rfl, X1, R1, g1⟩ | ⟨hp0, rfl, g1⟩)
  · have P1 := hidT ((g1.block _ (cell_lt (blk2 P0.out).1) (by simp; omega)).trans P0.out)
    have Q1 := hidT ((g1.block _ ((Array.getElem?_eq_some_iff.1 Q0.out).1) (by simp; omega)).trans Q0.out)
    have G1 := hidT (G0.out.trans g1)
    have R1 := hidT R1
    have X1 : Hid (Wraps w.heap.size m ws w1) := wraps_low X1 (by simp; omega)
    obtain ⟨ax, cx, hx⟩ := wrapsRow X1.out
    obtain ⟨n, HLEN⟩ : ∃ n, Hid (ws.length = n) := ⟨_, rfl⟩
    rw [HLEN.out] at hx
    subst hx
    clear g1
    obtain ⟨c0, c1, f0, f1⟩ := blk2 P1.out
    have HT := hidT (set2 (.int .i64 k) (.slice ax n cx) P1.out)
    have G2 := hidT (G1.out.andThen HT.out.2 (fun j e => .inl (by cases e; first | omega | exact Nat.le_refl _)))
    have R2 : Hid (Rdr b l' _) := (HT.out.2.block b R1.out.lt (by simp; omega)).trans R1.out
    have Q2 := hidT ((HT.out.2.block _ ((Array.getElem?_eq_some_iff.1 Q1.out).1) (by simp)).trans Q1.out)
    have P2 := hidT HT.out.1
    have X2 := hidT (wrapsKept X1.out HT.out.2 (fun k e => by cases e; exact wraps_ne X1.out P1.out (by decide)))
    have hr := R1.out.cell
    have hb0 : ¬ b = w.heap.size := by omega
    have hb1 : ¬ w.heap.size = b := by omega
    clear HT
    have HPO := hidT hpo
    clear hpo
    have q0 : w1.cell? ⟨w.heap.size + 1, 0, none⟩ = some (.bool false) := by simp [World.cell?, Q1.out]
    have q1 : w1.frozen? ⟨w.heap.size + 1, 0, none⟩ = false := by simp [World.frozen?, Q1.out]
    cases l' with
    | nil =>
      go_wp2
      generalize ((w1.setCell ⟨w.heap.size, 0, none⟩ (.int .i64 k)).setCell ⟨w.heap.size, 1, none⟩ (.slice ax n cx)) = w2 at G2 R2 P2 Q2 X2 ⊢
      clear c0 c1 f0 f1 hr q0 q1 R1 P1 Q1 G1 X1
      have HT := hidT (set2 (.int .i64 k) (.slice ax n cx) P2.out)
      have G3 := hidT (G2.out.andThen HT.out.2 (fun j e => .inl (by cases e; first | omega | exact Nat.le_refl _)))
      have Q3 := hidT ((HT.out.2.block _ ((Array.getElem?_eq_some_iff.1 Q2.out).1) (by simp)).trans Q2.out)
      have P3 := hidT HT.out.1
      have X3 := hidT (wrapsKept X2.out HT.out.2 (fun k e => by cases e; exact wraps_ne X2.out P2.out (by decide)))
      clear HT P2 Q2 R2 G2 X2
      generalize ((w2.setCell ⟨w.heap.size, 0, none⟩ (.int .i64 k)).setCell ⟨w.heap.size, 1, none⟩ (.slice ax n cx)) = w3 at G3 P3 Q3 X3 ⊢
      have g4 := setBy (b := w.heap.size + 1) w3 (.bool true)
      have G4 := hidT (G3.out.andThen g4 (fun j e => .inl (by cases e; first | omega | exact Nat.le_refl _)))
      have P4 := hidT ((g4.block _ (cell_lt (blk2 P3.out).1) (by simp)).trans P3.out)
      have Q4 : Hid ((w3.setCell ⟨w.heap.size + 1, 0, none⟩ (.bool true)).heap[w.heap.size + 1]? = some (bb true)) := by
        show (w3.setCell ⟨w.heap.size + 1, 0, none⟩ (.bool true)).heap[w.heap.size + 1]? = some (bb true)
        simp only [World.setCell, Array.getElem?_modify, Q3.out]
        simp
      have X4 := hidT (wrapsKept X3.out g4 (fun k e => by cases e; exact wraps_ne X3.out Q3.out (by decide)))
      clear g4
      generalize w3.setCell ⟨w.heap.size + 1, 0, none⟩ (.bool true) = w4 at G4 P4 Q4 X4 ⊢
      refine leaves_cons (f := 55) (args := #[.pointer (some ⟨w.heap.size, 0, none⟩), .pointer (some ⟨w.heap.size + 1, 0, none⟩)]) (by simp) (by simp [go_sem]) ?_
      refine (catchRk_idle _ _ _).mono ?_
      rintro e u' w'' ⟨rfl, rfl, hw⟩
      subst hw
      obtain ⟨k0, k1, _, _⟩ := blk2 P4.out
      have k2 : w''.cell? ⟨w.heap.size + 1, 0, none⟩ = some (.bool true) := by simp [World.cell?, Q4.out]
      have HW := hidT (wholeRk_some HPO.out)
      simp [Leaves, settle, results, Tryz.results30, go_sem, k0, k1, k2]
      exact ⟨.slice ax n cx, by rw [HW.out]; simp, by rw [HW.out]; exact X4.out, G4.out⟩
    | cons y r =>
      go_wp2_with (go_at_call 45; refine (giveUp_any b ev _ (HN.out.grown G2.out)).mono ?_; rintro e w' ⟨rfl, rfl⟩)
      generalize ((w1.setCell ⟨w.heap.size, 0, none⟩ (.int .i64 k)).setCell ⟨w.heap.size, 1, none⟩ (.slice ax n cx)) = w2 at G2 R2 P2 Q2 X2 ⊢
      obtain ⟨wE, hE, k0, k1, k2, kb, ko, kt, ku, kz⟩ := caughtRk P2.out Q2.out (by omega)
      obtain ⟨te, ve, rfl⟩ := HN.out.err
      refine leaves_cons (f := 55) (args := #[.pointer (some ⟨w.heap.size, 0, none⟩), .pointer (some ⟨w.heap.size + 1, 0, none⟩)]) (by simp) (by simp [go_sem]) ?_
      refine (catchRk_panicking w.heap.size (w.heap.size + 1) _ _ _ te ve [] _ P2.out Q2.out (by omega)).mono ?_
      rintro e u' w'' ⟨rfl, rfl, hw⟩
      rw [← hE] at hw
      subst hw
      have HQ := hidT (show w.grownBy w'' (some b) from ⟨ko.trans G2.out.os, kt.trans G2.out.tape, ku.trans G2.out.output, Nat.le_trans G2.out.size kz, fun i hi hne => (kb i (Nat.lt_of_lt_of_le hi G2.out.size) (by omega) (by omega)).trans (G2.out.block i hi hne)⟩)
      have HW := hidT (wholeRk_more HPO.out)
      clear hE kb ko kt ku kz
      simp [Leaves, settle, results, Tryz.results30, go_sem, k0, k1, k2]
      exact ⟨.slice none 0 0, by rw [HW.out]; simp, by rw [HW.out]; exact wraps_nil _ _, HQ.out⟩
  · have P1 := hidT ((g1.block _ (cell_lt (blk2 P0.out).1) (by simp; omega)).trans P0.out)
    have Q1 := hidT ((g1.block _ ((Array.getElem?_eq_some_iff.1 Q0.out).1) (by simp; omega)).trans Q0.out)
    have G1 := hidT (G0.out.trans g1)
    clear g1
    go_wp2
    obtain ⟨wE, hE, k0, k1, k2, kb, ko, kt, ku, kz⟩ := caughtRk P1.out Q1.out (by omega)
    obtain ⟨te, ve, rfl⟩ := HN.out.err
    refine leaves_cons (f := 55) (args := #[.pointer (some ⟨w.heap.size, 0, none⟩), .pointer (some ⟨w.heap.size + 1, 0, none⟩)]) (by simp) (by simp [go_sem]) ?_
    refine (catchRk_panicking w.heap.size (w.heap.size + 1) _ _ _ te ve [] _ P1.out Q1.out (by omega)).mono ?_
    rintro e u' w'' ⟨rfl, rfl, hw⟩
    rw [← hE] at hw
    subst hw
    have HQ := hidT (show w.grownBy w'' (some b) from ⟨ko.trans G1.out.os, kt.trans G1.out.tape, ku.trans G1.out.output, Nat.le_trans G1.out.size kz, fun i hi hne => (kb i (Nat.lt_of_lt_of_le hi G1.out.size) (by omega) (by omega)).trans (G1.out.block i hi hne)⟩)
    have HW := hidT (wholeRk_none hp0)
    clear hE kb ko kt ku kz
    simp [Leaves, settle, results, Tryz.results30, go_sem, k0, k1, k2]
    exact ⟨.slice none 0 0, by rw [HW.out]; simp, by rw [HW.out]; exact wraps_nil _ _, HQ.out⟩
end Tx
end Go.Proofs.YtapmgbnhobpahaaGreatDoor
/- ReadOp of the model: an op just where the text is the op's. -/
namespace Go.Proofs.YtapmgbnhobpahaaGreatDoor
open Go.RowKit Go.Shelf
namespace Tx

def kindOf (wd : List UInt8) : Int := if wd = [106, 111, 105, 110] then 1 else if wd = [108, 101, 97, 118, 101] then 2 else if wd = sRefresh then 3 else 0
def specRead (l : List UInt8) : Int × Int × Bool :=
  if l = [] ∨ opText (kindOf (cut 32 l).1) (pInt (cut 32 l).2.1).1 ≠ l then (0, 0, false) else (kindOf (cut 32 l).1, (pInt (cut 32 l).2.1).1, true)
theorem cut_len (c : UInt8) : ∀ l : List UInt8, (cut c l).1.length ≤ l.length ∧ (cut c l).2.1.length ≤ l.length
  | [] => by simp [cut]
  | x :: l => by
    have := cut_len c l
    by_cases h : x = c
    · simp [cut, h]
    · simp [cut, h]; omega
theorem opText_len (k m : Int) : (opText k m).length ≤ 40 := by
  unfold opText
  by_cases hF : formB k m = true
  · rw [if_pos hF]
    have hm : m.toNat ≤ 20 := by
      unfold formB at hF
      by_cases h : k = 1 ∨ k = 2
      · rw [if_pos h] at hF; simp at hF; omega
      · rw [if_neg h] at hF; simp at hF; omega
    have := dec_len 1 m.toNat (by omega)
    unfold opT
    by_cases h1 : k = 1
    · simp [h1]; omega
    · by_cases h2 : k = 2
      · simp [h2]; omega
      · simp [h1, h2]
  · rw [if_neg hF]; simp

set_option maxRecDepth 100000 in
set_option maxHeartbeats 1000000 in
theorem specReadOp_any (l : List UInt8) (w : World) (hl : l.length ≤ 1048576) :
    Calls Tryz.prog 15 #[st l] w fun e w' => e = .returned (.tuple #[kv (specRead l).1 (specRead l).2.1, .bool (specRead l).2.2]) ∧ Below w.heap.size w w' := by
  have HC := cut_len 32 l
  have HSR : Hid (specRead l = if l = [] ∨ opText (kindOf (cut 32 l).1) (pInt (cut 32 l).2.1).1 ≠ l then (0, 0, false) else (kindOf (cut 32 l).1, (pInt (cut 32 l).2.1).1, true)) := rfl
  generalize specRead l = sr at HSR ⊢
  have B1 := hidT (oneB w (opb 0 0))
  have P1 := hidT (heap_new w (opb 0 0))
  go_enter Tryz.func15, Tryz.ntmps15
  go_wp2_with fail
  refine (l1Cut_any 32 l _ hl).mono ?_
  rintro e w1 ⟨rfl, q, rfl⟩
  have B1 := hidT (below_drewN B1.out q)
  have P1 : Hid (((w.alloc (opb 0 0)).drewN q).heap[w.heap.size]? = some (opb 0 0)) := P1.out
  generalize (w.alloc (opb 0 0)).drewN q = w1 at B1 P1 ⊢
  generalize cut 32 l = cc at HC HSR ⊢
  obtain ⟨wd, rest, fnd⟩ := cc
  have hrl : rest.length ≤ 1048576 := Nat.le_trans HC.2 hl
  clear HC
  go_wp2_with fail
  refine (l1Int_any rest _ hrl).mono ?_
  rintro e w2 ⟨rfl, hw2⟩
  subst hw2
  generalize pInt rest = pn at HSR ⊢
  obtain ⟨n, okn⟩ := pn
  have hp : w.heap.size < w2.heap.size := cell_lt (blk2 P1.out).1
  have hpn : ¬ w.heap.size = w2.heap.size := by omega
  by_cases y1 : wd = [106, 111, 105, 110]
  · have y1' : (wd == [106, 111, 105, 110]) = true := by simpa using y1
    have W1 := hidT y1
    clear y1
    have HK := hidT (show kindOf wd = 1 by simp [kindOf, W1.out])
    have Q3 := hidT (heap_new w2 (opb 1 n))
    have P3 := hidT ((heap_old w2 (opb 1 n) hp).trans P1.out)
    have B3 := hidT (B1.out.alloc (Nat.le_of_lt hp) (opb 1 n))
    by_cases hnil : l = []
    · have hnil' : l.isEmpty = true := by simp [hnil]
      have HS := hidT (show sr = (0, 0, false) by rw [HSR.out, if_pos (.inl hnil)])
      obtain ⟨d0, d1, z0, z1⟩ := blk2 P1.out
      have HT := hidT (set2 (.int .i64 0) (.int .i64 0) P1.out)
      have B5 := hidT (B1.out.grown HT.out.2 B1.out.size (fun j e => by cases e; exact Nat.le_refl _))
      have P5 := hidT HT.out.1
      clear HT
      go_wp2
      generalize ((w2.setCell ⟨w.heap.size, 0, none⟩ (.int .i64 0)).setCell ⟨w.heap.size, 1, none⟩ (.int .i64 0)) = w5 at B5 P5 ⊢
      have P6 := (heap_old w5 (opb 1 n) (cell_lt (blk2 P5.out).1)).trans P5.out
      obtain ⟨e0, e1, _, _⟩ := blk2 P6
      refine bodyPost_ret (v := .tuple #[kv 0 0, .bool false]) (by simp [results, Tryz.results15, go_sem, e0, e1]) rfl ⟨by rw [HS.out], B5.out.alloc B5.out.size _⟩
    · have hnil' : l.isEmpty = false := by simp [hnil]
      go_wp2_with fail
      refine (specOpText_any 1 n _).mono ?_
      rintro e w4 ⟨rfl, hb4⟩
      have Q4 := hidT ((hb4.block _ (cell_lt (blk2 Q3.out).1)).trans Q3.out)
      have P4 := hidT ((hb4.block _ (cell_lt (blk2 P3.out).1)).trans P3.out)
      have B4 := hidT (B3.out.trans (hb4.mono B3.out.size))
      clear hb4
      obtain ⟨c0, c1, f0, f1⟩ := blk2 Q4.out
      obtain ⟨d0, d1, z0, z1⟩ := blk2 P4.out
      by_cases ht : opText 1 n = l
      · have HS := hidT (show sr = (1, n, true) by rw [HSR.out, HK.out, if_neg (by simp [hnil, ht])])
        rw [ht]
        have HT := hidT (set2 (.int .i64 1) (.int .i64 n) P4.out)
        have B5 := hidT (B4.out.grown HT.out.2 B4.out.size (fun j e => by cases e; exact Nat.le_refl _))
        have P5 := hidT HT.out.1
        clear HT ht
        go_wp2
        generalize ((w4.setCell ⟨w.heap.size, 0, none⟩ (.int .i64 1)).setCell ⟨w.heap.size, 1, none⟩ (.int .i64 n)) = w5 at B5 P5 ⊢
        obtain ⟨e0, e1, _, _⟩ := blk2 P5.out
        refine bodyPost_ret (v := .tuple #[kv 1 n, .bool true]) (by simp [results, Tryz.results15, go_sem, e0, e1]) rfl ⟨by rw [HS.out], B5.out⟩
      · have HS := hidT (show sr = (0, 0, false) by rw [HSR.out, HK.out, if_pos (.inr ht)])
        have ht' : (opText 1 n == l) = false := by simpa using ht
        have HT := hidT (set2 (.int .i64 0) (.int .i64 0) P4.out)
        have B5 := hidT (B4.out.grown HT.out.2 B4.out.size (fun j e => by cases e; exact Nat.le_refl _))
        have P5 := hidT HT.out.1
        have HH := hidT ht
        clear HT ht
        go_wp2
        generalize ((w4.setCell ⟨w.heap.size, 0, none⟩ (.int .i64 0)).setCell ⟨w.heap.size, 1, none⟩ (.int .i64 0)) = w5 at B5 P5 ⊢
        obtain ⟨e0, e1, _, _⟩ := blk2 P5.out
        refine bodyPost_ret (v := .tuple #[kv 0 0, .bool false]) (by simp [results, Tryz.results15, go_sem, e0, e1]) rfl ⟨by rw [HS.out], B5.out⟩
  have y1' : (wd == [106, 111, 105, 110]) = false := by simpa using y1
  by_cases y2 : wd = [108, 101, 97, 118, 101]
  · have y2' : (wd == [108, 101, 97, 118, 101]) = true := by simpa using y2
    have W1 := hidT y1
    have W2 := hidT y2
    clear y1 y2
    have HK := hidT (show kindOf wd = 2 by simp [kindOf, W2.out])
    have Q3 := hidT (heap_new w2 (opb 2 n))
    have P3 := hidT ((heap_old w2 (opb 2 n) hp).trans P1.out)
    have B3 := hidT (B1.out.alloc (Nat.le_of_lt hp) (opb 2 n))
    by_cases hnil : l = []
    · have hnil' : l.isEmpty = true := by simp [hnil]
      have HS := hidT (show sr = (0, 0, false) by rw [HSR.out, if_pos (.inl hnil)])
      obtain ⟨d0, d1, z0, z1⟩ := blk2 P1.out
      have HT := hidT (set2 (.int .i64 0) (.int .i64 0) P1.out)
      have B5 := hidT (B1.out.grown HT.out.2 B1.out.size (fun j e => by cases e; exact Nat.le_refl _))
      have P5 := hidT HT.out.1
      clear HT
      go_wp2
      generalize ((w2.setCell ⟨w.heap.size, 0, none⟩ (.int .i64 0)).setCell ⟨w.heap.size, 1, none⟩ (.int .i64 0)) = w5 at B5 P5 ⊢
      have P6 := (heap_old w5 (opb 2 n) (cell_lt (blk2 P5.out).1)).trans P5.out
      obtain ⟨e0, e1, _, _⟩ := blk2 P6
      refine bodyPost_ret (v := .tuple #[kv 0 0, .bool false]) (by simp [results, Tryz.results15, go_sem, e0, e1]) rfl ⟨by rw [HS.out], B5.out.alloc B5.out.size _⟩
    · have hnil' : l.isEmpty = false := by simp [hnil]
      go_wp2_with fail
      refine (specOpText_any 2 n _).mono ?_
      rintro e w4 ⟨rfl, hb4⟩
      have Q4 := hidT ((hb4.block _ (cell_lt (blk2 Q3.out).1)).trans Q3.out)
      have P4 := hidT ((hb4.block _ (cell_lt (blk2 P3.out).1)).trans P3.out)
      have B4 := hidT (B3.out.trans (hb4.mono B3.out.size))
      clear hb4
      obtain ⟨c0, c1, f0, f1⟩ := blk2 Q4.out
      obtain ⟨d0, d1, z0, z1⟩ := blk2 P4.out
      by_cases ht : opText 2 n = l
      · have HS := hidT (show sr = (2, n, true) by rw [HSR.out, HK.out, if_neg (by simp [hnil, ht])])
        rw [ht]
        have HT := hidT (set2 (.int .i64 2) (.int .i64 n) P4.out)
        have B5 := hidT (B4.out.grown HT.out.2 B4.out.size (fun j e => by cases e; exact Nat.le_refl _))
        have P5 := hidT HT.out.1
        clear HT ht
        go_wp2
        generalize ((w4.setCell ⟨w.heap.size, 0, none⟩ (.int .i64 2)).setCell ⟨w.heap.size, 1, none⟩ (.int .i64 n)) = w5 at B5 P5 ⊢
        obtain ⟨e0, e1, _, _⟩ := blk2 P5.out
        refine bodyPost_ret (v := .tuple #[kv 2 n, .bool true]) (by simp [results, Tryz.results15, go_sem, e0, e1]) rfl ⟨by rw [HS.out], B5.out⟩
      · have HS := hidT (show sr = (0, 0, false) by rw [HSR.out, HK.out, if_pos (.inr ht)])
        have ht' : (opText 2 n == l) = false := by simpa using ht
        have HT := hidT (set2 (.int .i64 0) (.int .i64 0) P4.out)
        have B5 := hidT (B4.out.grown HT.out.2 B4.out.size (fun j e => by cases e; exact Nat.le_refl _))
        have P5 := hidT HT.out.1
        have HH := hidT ht
        clear HT ht
        go_wp2
        generalize ((w4.setCell ⟨w.heap.size, 0, none⟩ (.int .i64 0)).setCell ⟨w.heap.size, 1, none⟩ (.int .i64 0)) = w5 at B5 P5 ⊢
        obtain ⟨e0, e1, _, _⟩ := blk2 P5.out
        refine bodyPost_ret (v := .tuple #[kv 0 0, .bool false]) (by simp [results, Tryz.results15, go_sem, e0, e1]) rfl ⟨by rw [HS.out], B5.out⟩
  have y2' : (wd == [108, 101, 97, 118, 101]) = false := by simpa using y2
  by_cases y3 : wd = [114, 101, 102, 114, 101, 115, 104]
  · have y3' : (wd == [114, 101, 102, 114, 101, 115, 104]) = true := by simpa using y3
    have W1 := hidT y1
    have W2 := hidT y2
    have W3 := hidT y3
    clear y1 y2 y3
    have HK := hidT (show kindOf wd = 3 by simp [kindOf, W3.out])
    have Q3 := hidT (heap_new w2 (opb 3 n))
    have P3 := hidT ((heap_old w2 (opb 3 n) hp).trans P1.out)
    have B3 := hidT (B1.out.alloc (Nat.le_of_lt hp) (opb 3 n))
    by_cases hnil : l = []
    · have hnil' : l.isEmpty = true := by simp [hnil]
      have HS := hidT (show sr = (0, 0, false) by rw [HSR.out, if_pos (.inl hnil)])
      obtain ⟨d0, d1, z0, z1⟩ := blk2 P1.out
      have HT := hidT (set2 (.int .i64 0) (.int .i64 0) P1.out)
      have B5 := hidT (B1.out.grown HT.out.2 B1.out.size (fun j e => by cases e; exact Nat.le_refl _))
      have P5 := hidT HT.out.1
      clear HT
      go_wp2
      generalize ((w2.setCell ⟨w.heap.size, 0, none⟩ (.int .i64 0)).setCell ⟨w.heap.size, 1, none⟩ (.int .i64 0)) = w5 at B5 P5 ⊢
      have P6 := (heap_old w5 (opb 3 n) (cell_lt (blk2 P5.out).1)).trans P5.out
      obtain ⟨e0, e1, _, _⟩ := blk2 P6
      refine bodyPost_ret (v := .tuple #[kv 0 0, .bool false]) (by simp [results, Tryz.results15, go_sem, e0, e1]) rfl ⟨by rw [HS.out], B5.out.alloc B5.out.size _⟩
    · have hnil' : l.isEmpty = false := by simp [hnil]
      go_wp2_with fail
      refine (specOpText_any 3 n _).mono ?_
      rintro e w4 ⟨rfl, hb4⟩
      have Q4 := hidT ((hb4.block _ (cell_lt (blk2 Q3.out).1)).trans Q3.out)
      have P4 := hidT ((hb4.block _ (cell_lt (blk2 P3.out).1)).trans P3.out)
      have B4 := hidT (B3.out.trans (hb4.mono B3.out.size))
      clear hb4
      obtain ⟨c0, c1, f0, f1⟩ := blk2 Q4.out
      obtain ⟨d0, d1, z0, z1⟩ := blk2 P4.out
      by_cases ht : opText 3 n = l
      · have HS := hidT (show sr = (3, n, true) by rw [HSR.out, HK.out, if_neg (by simp [hnil, ht])])
        rw [ht]
        have HT := hidT (set2 (.int .i64 3) (.int .i64 n) P4.out)
        have B5 := hidT (B4.out.grown HT.out.2 B4.out.size (fun j e => by cases e; exact Nat.le_refl _))
        have P5 := hidT HT.out.1
        clear HT ht
        go_wp2
        generalize ((w4.setCell ⟨w.heap.size, 0, none⟩ (.int .i64 3)).setCell ⟨w.heap.size, 1, none⟩ (.int .i64 n)) = w5 at B5 P5 ⊢
        obtain ⟨e0, e1, _, _⟩ := blk2 P5.out
        refine bodyPost_ret (v := .tuple #[kv 3 n, .bool true]) (by simp [results, Tryz.results15, go_sem, e0, e1]) rfl ⟨by rw [HS.out], B5.out⟩
      · have HS := hidT (show sr = (0, 0, false) by rw [HSR.out, HK.out, if_pos (.inr ht)])
        have ht' : (opText 3 n == l) = false := by simpa using ht
        have HT := hidT (set2 (.int .i64 0) (.int .i64 0) P4.out)
        have B5 := hidT (B4.out.grown HT.out.2 B4.out.size (fun j e => by cases e; exact Nat.le_refl _))
        have P5 := hidT HT.out.1
        have HH := hidT ht
        clear HT ht
        go_wp2
        generalize ((w4.setCell ⟨w.heap.size, 0, none⟩ (.int .i64 0)).setCell ⟨w.heap.size, 1, none⟩ (.int .i64 0)) = w5 at B5 P5 ⊢
        obtain ⟨e0, e1, _, _⟩ := blk2 P5.out
        refine bodyPost_ret (v := .tuple #[kv 0 0, .bool false]) (by simp [results, Tryz.results15, go_sem, e0, e1]) rfl ⟨by rw [HS.out], B5.out⟩
  have y3' : (wd == [114, 101, 102, 114, 101, 115, 104]) = false := by simpa using y3
  have W1 := hidT y1
  have W2 := hidT y2
  have W3 := hidT y3
  clear y1 y2 y3
  have HK := hidT (show kindOf wd = 0 by simp [kindOf, W1.out, W2.out, W3.out])
  have Q3 := hidT (heap_new w2 (opb 0 n))
  have P3 := hidT ((heap_old w2 (opb 0 n) hp).trans P1.out)
  have B3 := hidT (B1.out.alloc (Nat.le_of_lt hp) (opb 0 n))
  by_cases hnil : l = []
  · have hnil' : l.isEmpty = true := by simp [hnil]
    have HS := hidT (show sr = (0, 0, false) by rw [HSR.out, if_pos (.inl hnil)])
    obtain ⟨d0, d1, z0, z1⟩ := blk2 P1.out
    have HT := hidT (set2 (.int .i64 0) (.int .i64 0) P1.out)
    have B5 := hidT (B1.out.grown HT.out.2 B1.out.size (fun j e => by cases e; exact Nat.le_refl _))
    have P5 := hidT HT.out.1
    clear HT
    go_wp2
    generalize ((w2.setCell ⟨w.heap.size, 0, none⟩ (.int .i64 0)).setCell ⟨w.heap.size, 1, none⟩ (.int .i64 0)) = w5 at B5 P5 ⊢
    have P6 := (heap_old w5 (opb 0 n) (cell_lt (blk2 P5.out).1)).trans P5.out
    obtain ⟨e0, e1, _, _⟩ := blk2 P6
    refine bodyPost_ret (v := .tuple #[kv 0 0, .bool false]) (by simp [results, Tryz.results15, go_sem, e0, e1]) rfl ⟨by rw [HS.out], B5.out.alloc B5.out.size _⟩
  · have hnil' : l.isEmpty = false := by simp [hnil]
    go_wp2_with fail
    refine (specOpText_any 0 n _).mono ?_
    rintro e w4 ⟨rfl, hb4⟩
    have Q4 := hidT ((hb4.block _ (cell_lt (blk2 Q3.out).1)).trans Q3.out)
    have P4 := hidT ((hb4.block _ (cell_lt (blk2 P3.out).1)).trans P3.out)
    have B4 := hidT (B3.out.trans (hb4.mono B3.out.size))
    clear hb4
    obtain ⟨c0, c1, f0, f1⟩ := blk2 Q4.out
    obtain ⟨d0, d1, z0, z1⟩ := blk2 P4.out
    by_cases ht : opText 0 n = l
    · have HS := hidT (show sr = (0, n, true) by rw [HSR.out, HK.out, if_neg (by simp [hnil, ht])])
      rw [ht]
      have HT := hidT (set2 (.int .i64 0) (.int .i64 n) P4.out)
      have B5 := hidT (B4.out.grown HT.out.2 B4.out.size (fun j e => by cases e; exact Nat.le_refl _))
      have P5 := hidT HT.out.1
      clear HT ht
      go_wp2
      generalize ((w4.setCell ⟨w.heap.size, 0, none⟩ (.int .i64 0)).setCell ⟨w.heap.size, 1, none⟩ (.int .i64 n)) = w5 at B5 P5 ⊢
      obtain ⟨e0, e1, _, _⟩ := blk2 P5.out
      refine bodyPost_ret (v := .tuple #[kv 0 n, .bool true]) (by simp [results, Tryz.results15, go_sem, e0, e1]) rfl ⟨by rw [HS.out], B5.out⟩
    · have HS := hidT (show sr = (0, 0, false) by rw [HSR.out, HK.out, if_pos (.inr ht)])
      have ht' : (opText 0 n == l) = false := by simpa using ht
      have HT := hidT (set2 (.int .i64 0) (.int .i64 0) P4.out)
      have B5 := hidT (B4.out.grown HT.out.2 B4.out.size (fun j e => by cases e; exact Nat.le_refl _))
      have P5 := hidT HT.out.1
      have HH := hidT ht
      clear HT ht
      go_wp2
      generalize ((w4.setCell ⟨w.heap.size, 0, none⟩ (.int .i64 0)).setCell ⟨w.heap.size, 1, none⟩ (.int .i64 0)) = w5 at B5 P5 ⊢
      obtain ⟨e0, e1, _, _⟩ := blk2 P5.out
      refine bodyPost_ret (v := .tuple #[kv 0 0, .bool false]) (by simp [results, Tryz.results15, go_sem, e0, e1]) rfl ⟨by rw [HS.out], B5.out⟩
end Tx
end Go.Proofs.YtapmgbnhobpahaaGreatDoor
/- ReadOp of the program; both ReadOps answer the same; the exact law of ReadOp. -/
namespace Go.Proofs.YtapmgbnhobpahaaGreatDoor
open Go.RowKit Go.Shelf
namespace Tx

/-- The package's error errNoText holds an error. -/
def HasNo (w : World) : Prop := ∃ t v, w.cell? ⟨1, 0, none⟩ = some (.iface t v)
theorem HasNo.since {w w' : World} (h : HasNo w) (hb : Below w.heap.size w w') : HasNo w' := by
  obtain ⟨t, v, h⟩ := h
  exact ⟨t, v, (hb.cell (p := ⟨1, 0, none⟩) (cell_lt h)).trans h⟩

set_option maxRecDepth 100000 in
theorem readOp_any (l : List UInt8) (w : World) (hN : HasNo w) (hF : HasForm w) (hl : l.length ≤ 1048576) :
    Calls Tryz.prog 7 #[st l] w fun e w' => e = .returned (.tuple #[kv (wholeOp l).1 (wholeOp l).2.1, .bool (wholeOp l).2.2]) ∧ Below w.heap.size w w' := by
  have hmf : ∀ (fn : Fn) (first cap : Array Value) (w : World), (Instr.makeFunc fn first cap).run Tryz.prog w = .ok (.func fn first cap) w := fun _ _ _ _ => rfl
  have B0 := hidT ((oneB w (opb 0 0)).alloc (by simp) (.cells #[.string ⟨l.toArray⟩] 48))
  have P0 := hidT (show ((w.alloc (opb 0 0)).alloc (.cells #[.string ⟨l.toArray⟩] 48)).heap[w.heap.size]? = some (opb 0 0) from (heap_old _ _ (by simp)).trans (heap_new _ _))
  have R0 : Hid (Rdr (w.heap.size + 1) l ((w.alloc (opb 0 0)).alloc (.cells #[.string ⟨l.toArray⟩] 48))) := by
    have := heap_new (w.alloc (opb 0 0)) (.cells #[.string ⟨l.toArray⟩] 48)
    rw [World.size_alloc] at this
    exact this
  obtain ⟨t, v, hc⟩ := hN.since B0.out
  obtain ⟨t2, v2, hc2⟩ := hN
  obtain ⟨t3, v3, hc3⟩ := hF
  have l2 := cell_lt hc2
  have l3 := cell_lt hc3
  simp only at l2 l3
  have HN : Hid (NoText (w.heap.size + 1) (.iface t v) ((w.alloc (opb 0 0)).alloc (.cells #[.string ⟨l.toArray⟩] 48))) := ⟨hc, ⟨_, _, rfl⟩, by omega⟩
  have HF : Hid (FormX (w.heap.size + 1) ((w.alloc (opb 0 0)).alloc (.cells #[.string ⟨l.toArray⟩] 48))) := ⟨HasForm.since ⟨t3, v3, hc3⟩ B0.out, by omega⟩
  clear hc hc2 hc3
  go_enter Tryz.func7, Tryz.ntmps7
  go_wp2_with fail
  refine (wholeOp_any (w.heap.size + 1) (.iface t v) l _ R0.out HN.out HF.out hl).mono ?_
  rintro e w1 ⟨rfl, g1⟩
  have B1 := hidT (B0.out.grown g1 B0.out.size (fun j e => by cases e; omega))
  have P1 := hidT ((g1.block _ (cell_lt (blk2 P0.out).1) (by simp)).trans P0.out)
  clear g1
  obtain ⟨d0, d1, z0, z1⟩ := blk2 P1.out
  obtain ⟨k, m, ok, HX⟩ : ∃ k m ok, Hid (wholeOp l = (k, m, ok)) := ⟨_, _, _, rfl⟩
  rw [HX.out]
  have HT := hidT (set2 (.int .i64 k) (.int .i64 m) P1.out)
  have B5 := hidT (B1.out.grown HT.out.2 B1.out.size (fun j e => by cases e; exact Nat.le_refl _))
  have P5 := hidT HT.out.1
  clear HT
  go_wp2
  generalize ((w1.setCell ⟨w.heap.size, 0, none⟩ (.int .i64 k)).setCell ⟨w.heap.size, 1, none⟩ (.int .i64 m)) = w5 at B5 P5 ⊢
  obtain ⟨e0, e1, _, _⟩ := blk2 P5.out
  exact bodyPost_ret (v := .tuple #[kv k m, .bool ok]) (by simp [results, Tryz.results7, go_sem, e0, e1]) rfl ⟨by rw [HX.out], B5.out⟩

theorem hasPre (p r : List UInt8) : Lib.hasPrefix (p ++ r) p = true := by simp [Lib.hasPrefix]
theorem hasPre_is {l p : List UInt8} (h : Lib.hasPrefix l p = true) : l = p ++ l.drop p.length := by
  simp [Lib.hasPrefix] at h
  obtain ⟨r, rfl⟩ := h
  simp
theorem stops_nil : Stops [] := fun x r h => by cases h
theorem pMem_dec {k : Int} {n : Nat} (h : formB k (n : Int) = true) (hn : n < 10000000000) : pMem k (Lib.decDigits n) = some ((k, (n : Int)), []) := by
  have := pNum_dec n hn stops_nil
  rw [List.append_nil] at this
  simp [pMem, this, h]
/-- A right op is read off its text. -/
theorem pOp_text {k m : Int} (h : formB k m = true) : pOp (opT k m) = some ((k, m), []) := by
  have hc : (k = 1 ∨ k = 2) ∧ 1 ≤ m ∧ m ≤ 20 ∨ k = 3 ∧ m = 0 := by
    unfold formB at h
    by_cases h1 : k = 1 ∨ k = 2
    · rw [if_pos h1] at h; simp at h; exact .inl ⟨h1, h⟩
    · rw [if_neg h1] at h; simp at h; exact .inr h
  rcases hc with ⟨rfl | rfl, hm⟩ | ⟨rfl, rfl⟩
  · obtain ⟨n, rfl⟩ : ∃ n : Nat, m = (n : Int) := ⟨m.toNat, by omega⟩
    have e : opT 1 (n : Int) = sJoin ++ Lib.decDigits n := by simp [opT]
    rw [e, pOp, if_pos (hasPre _ _)]
    exact pMem_dec h (by omega)
  · obtain ⟨n, rfl⟩ : ∃ n : Nat, m = (n : Int) := ⟨m.toNat, by omega⟩
    have e : opT 2 (n : Int) = sLeave ++ Lib.decDigits n := by simp [opT]
    rw [e, pOp, if_neg (by simp [Lib.hasPrefix]), if_pos (hasPre _ _)]
    exact pMem_dec h (by omega)
  · decide
theorem pMem_is {k : Int} {l : List UInt8} {x : Int × Int} {r : List UInt8} (h : pMem k l = some (x, r)) : ∃ n : Nat, x = (k, (n : Int)) ∧ formB k (n : Int) = true ∧ l = Lib.decDigits n ++ r := by
  unfold pMem at h
  cases hn : pNum l with
  | none => simp [hn] at h
  | some y =>
    obtain ⟨m, r'⟩ := y
    obtain ⟨n, rfl, _, hl, _⟩ := pNum_is hn
    by_cases hf : formB k (n : Int) = true
    · simp [hn, hf] at h
      exact ⟨n, h.1.symm, hf, by rw [hl, h.2]⟩
    · simp [hn, hf] at h
/-- What an op was read off is its text. -/
theorem pOp_is {l : List UInt8} {k m : Int} (h : pOp l = some ((k, m), [])) : formB k m = true ∧ l = opT k m := by
  unfold pOp at h
  by_cases h1 : Lib.hasPrefix l sJoin = true
  · rw [if_pos h1] at h
    obtain ⟨n, e, hf, hl⟩ := pMem_is h
    injection e with e1 e2
    subst e1 e2
    refine ⟨hf, ?_⟩
    rw [hasPre_is h1, show l.drop sJoin.length = l.drop 5 from rfl, hl]
    simp [opT]
  · rw [if_neg h1] at h
    by_cases h2 : Lib.hasPrefix l sLeave = true
    · rw [if_pos h2] at h
      obtain ⟨n, e, hf, hl⟩ := pMem_is h
      injection e with e1 e2
      subst e1 e2
      refine ⟨hf, ?_⟩
      rw [hasPre_is h2, show l.drop sLeave.length = l.drop 6 from rfl, hl]
      simp [opT]
    · rw [if_neg h2] at h
      unfold pNeed at h
      by_cases h3 : Lib.hasPrefix l sRefresh = true
      · rw [if_pos h3] at h
        simp at h
        obtain ⟨⟨rfl, rfl⟩, h4⟩ := h
        refine ⟨by decide, ?_⟩
        rw [hasPre_is h3, show l.drop sRefresh.length = [] from List.drop_eq_nil_of_le h4]
        simp [opT]
      · rw [if_neg h3] at h
        simp at h
theorem cut_app (c : UInt8) : ∀ (a r : List UInt8), c ∉ a → cut c (a ++ c :: r) = (a, r, true)
  | [], r, _ => by simp [cut]
  | x :: a, r, h => by
    have hx : x ≠ c := fun e => h (by simp [e])
    have := cut_app c a r (fun m => h (List.mem_cons_of_mem _ m))
    simp [cut, hx, this]
theorem pInt_dec (n : Nat) (h : n < 10000000000) : pInt (Lib.decDigits n) = ((n : Int), true) := by
  unfold pInt
  rw [if_pos ⟨numOk_dec n h, List.all_eq_true.2 (dec_isD n n (lt_pow n))⟩, numV_dec n n (lt_pow n)]
theorem opT_ne (k m : Int) : opT k m ≠ [] := by
  unfold opT
  by_cases h1 : k = 1
  · simp [h1]
  · by_cases h2 : k = 2 <;> simp [h1, h2]
theorem specRead_text {k m : Int} (h : formB k m = true) : specRead (opT k m) = (k, m, true) := by
  have hc : (k = 1 ∨ k = 2) ∧ 1 ≤ m ∧ m ≤ 20 ∨ k = 3 ∧ m = 0 := by
    unfold formB at h
    by_cases h1 : k = 1 ∨ k = 2
    · rw [if_pos h1] at h; simp at h; exact .inl ⟨h1, h⟩
    · rw [if_neg h1] at h; simp at h; exact .inr h
  have ht : opText k m = opT k m := by simp [opText, h]
  rcases hc with ⟨rfl | rfl, hm⟩ | ⟨rfl, rfl⟩
  · obtain ⟨n, rfl⟩ : ∃ n : Nat, m = (n : Int) := ⟨m.toNat, by omega⟩
    have e : cut 32 (opT 1 (n : Int)) = ([106, 111, 105, 110], Lib.decDigits n, true) := by
      have : opT 1 (n : Int) = [106, 111, 105, 110] ++ 32 :: Lib.decDigits n := by simp [opT]
      rw [this]
      exact cut_app 32 _ _ (by decide)
    unfold specRead
    rw [e]
    simp only [pInt_dec n (by omega), show kindOf [106, 111, 105, 110] = 1 by decide, ht]
    rw [if_neg (by simp [opT_ne])]
  · obtain ⟨n, rfl⟩ : ∃ n : Nat, m = (n : Int) := ⟨m.toNat, by omega⟩
    have e : cut 32 (opT 2 (n : Int)) = ([108, 101, 97, 118, 101], Lib.decDigits n, true) := by
      have : opT 2 (n : Int) = [108, 101, 97, 118, 101] ++ 32 :: Lib.decDigits n := by simp [opT]
      rw [this]
      exact cut_app 32 _ _ (by decide)
    unfold specRead
    rw [e]
    simp only [pInt_dec n (by omega), show kindOf [108, 101, 97, 118, 101] = 2 by decide, ht]
    rw [if_neg (by simp [opT_ne])]
  · decide
theorem specRead_is {l : List UInt8} {k m : Int} (h : specRead l = (k, m, true)) : formB k m = true ∧ l = opT k m := by
  unfold specRead at h
  by_cases hc : l = [] ∨ opText (kindOf (cut 32 l).1) (pInt (cut 32 l).2.1).1 ≠ l
  · rw [if_pos hc] at h; simp at h
  · rw [if_neg hc] at h
    simp at h
    obtain ⟨h1, h2⟩ := h
    rw [h1, h2] at hc
    simp only [not_or, ne_eq, Decidable.not_not] at hc
    by_cases hf : formB k m = true
    · refine ⟨hf, ?_⟩
      have := hc.2
      rw [opText, if_pos hf] at this
      exact this.symm
    · have := hc.2
      rw [opText, if_neg hf] at this
      exact absurd this.symm hc.1
theorem wholeOp_is {l : List UInt8} {k m : Int} (h : wholeOp l = (k, m, true)) : formB k m = true ∧ l = opT k m := by
  unfold wholeOp at h
  split at h
  · rename_i x hx
    obtain ⟨a, b⟩ := x
    simp at h
    obtain ⟨rfl, rfl⟩ := h
    exact pOp_is hx
  · simp at h
theorem specRead_not {l : List UInt8} (h : (specRead l).2.2 = false) : specRead l = (0, 0, false) := by
  unfold specRead at h ⊢
  by_cases hc : l = [] ∨ opText (kindOf (cut 32 l).1) (pInt (cut 32 l).2.1).1 ≠ l
  · rw [if_pos hc]
  · rw [if_neg hc] at h; simp at h
theorem wholeOp_not {l : List UInt8} (h : (wholeOp l).2.2 = false) : wholeOp l = (0, 0, false) := by
  unfold wholeOp at h ⊢
  split at h
  · simp at h
  · rfl
/-- Both read the same ops. -/
theorem bothRead (l : List UInt8) : wholeOp l = specRead l := by
  obtain ⟨k, m, b, hw⟩ : ∃ k m b, wholeOp l = (k, m, b) := ⟨_, _, _, rfl⟩
  obtain ⟨k', m', b', hs⟩ : ∃ k m b, specRead l = (k, m, b) := ⟨_, _, _, rfl⟩
  cases b with
  | true =>
    obtain ⟨hf, rfl⟩ := wholeOp_is hw
    rw [hw, specRead_text hf]
  | false =>
    cases b' with
    | true =>
      obtain ⟨hf, rfl⟩ := specRead_is hs
      have : wholeOp (opT k' m') = (k', m', true) := wholeOp_some (pOp_text hf)
      rw [this] at hw
      simp at hw
    | false => rw [wholeOp_not (by rw [hw]), specRead_not (by rw [hs])]
end Tx
end Go.Proofs.YtapmgbnhobpahaaGreatDoor
/- ReadRekey of the program. -/
namespace Go.Proofs.YtapmgbnhobpahaaGreatDoor
open Go.RowKit Go.Shelf
namespace Tx

set_option maxRecDepth 100000 in
theorem readRekey_any (l : List UInt8) (w : World) (hN : HasNo w) (hl : l.length ≤ 1048576) :
    Calls Tryz.prog 10 #[st l] w fun e w' => ∃ x, e = .returned (.tuple #[rv (wholeRk l).1 x, .bool (wholeRk l).2.2]) ∧ Wraps w.heap.size x (wholeRk l).2.1 w' ∧ Below w.heap.size w w' := by
  have hmf : ∀ (fn : Fn) (first cap : Array Value) (w : World), (Instr.makeFunc fn first cap).run Tryz.prog w = .ok (.func fn first cap) w := fun _ _ _ _ => rfl
  have B0 := hidT ((oneB w (rb 0 (.slice none 0 0))).alloc (by simp) (.cells #[.string ⟨l.toArray⟩] 48))
  have P0 := hidT (show ((w.alloc (rb 0 (.slice none 0 0))).alloc (.cells #[.string ⟨l.toArray⟩] 48)).heap[w.heap.size]? = some (rb 0 (.slice none 0 0)) from (heap_old _ _ (by simp)).trans (heap_new _ _))
  have R0 : Hid (Rdr (w.heap.size + 1) l ((w.alloc (rb 0 (.slice none 0 0))).alloc (.cells #[.string ⟨l.toArray⟩] 48))) := by
    have := heap_new (w.alloc (rb 0 (.slice none 0 0))) (.cells #[.string ⟨l.toArray⟩] 48)
    rw [World.size_alloc] at this
    exact this
  obtain ⟨t, v, hc⟩ := hN.since B0.out
  obtain ⟨t2, v2, hc2⟩ := hN
  have l2 := cell_lt hc2
  simp only at l2
  have HN : Hid (NoText (w.heap.size + 1) (.iface t v) ((w.alloc (rb 0 (.slice none 0 0))).alloc (.cells #[.string ⟨l.toArray⟩] 48))) := ⟨hc, ⟨_, _, rfl⟩, by omega⟩
  clear hc hc2
  go_enter Tryz.func10, Tryz.ntmps10
  go_wp2_with fail
  refine (wholeRk_any (w.heap.size + 1) (.iface t v) l _ R0.out HN.out hl).mono ?_
  rintro e w1 ⟨x, rfl, X1, g1⟩
  have B1 := hidT (B0.out.grown g1 B0.out.size (fun j e => by cases e; omega))
  have P1 := hidT ((g1.block _ (cell_lt (blk2 P0.out).1) (by simp)).trans P0.out)
  clear g1
  have X1 := hidT (wraps_low X1 (show w.heap.size ≤ _ by simp; omega))
  obtain ⟨d0, d1, z0, z1⟩ := blk2 P1.out
  obtain ⟨k, ws, ok, HX⟩ : ∃ k ws ok, Hid (wholeRk l = (k, ws, ok)) := ⟨_, _, _, rfl⟩
  rw [HX.out] at X1 ⊢
  obtain ⟨ax, cx, hx⟩ := wrapsRow X1.out
  obtain ⟨n, HLEN⟩ : ∃ n, Hid (ws.length = n) := ⟨_, rfl⟩
  simp only [HLEN.out] at hx
  subst hx
  have HT := hidT (set2 (.int .i64 k) (.slice ax n cx) P1.out)
  have B5 := hidT (B1.out.grown HT.out.2 B1.out.size (fun j e => by cases e; exact Nat.le_refl _))
  have P5 := hidT HT.out.1
  have X5 := hidT (wrapsKept X1.out HT.out.2 (fun k e => by cases e; exact wraps_ne X1.out P1.out (by decide)))
  clear HT
  go_wp2
  generalize ((w1.setCell ⟨w.heap.size, 0, none⟩ (.int .i64 k)).setCell ⟨w.heap.size, 1, none⟩ (.slice ax n cx)) = w5 at B5 P5 X5 ⊢
  obtain ⟨e0, e1, _, _⟩ := blk2 P5.out
  exact bodyPost_ret (v := .tuple #[rv k (.slice ax n cx), .bool ok]) (by simp [results, Tryz.results10, go_sem, e0, e1]) rfl ⟨.slice ax n cx, by rw [HX.out], by rw [HX.out]; exact X5.out, B5.out⟩
end Tx
end Go.Proofs.YtapmgbnhobpahaaGreatDoor
