
/- A rekey off the program's reader. -/
import Derived.Test.YtmlmlmcmhpahpaaDoorTw1
import Derived.Test.YtmlmlmcmhpahpaaDoorTk3
namespace Go.Proofs.YtmlmlmcmhpahpaaDoor
open Go.RowKit Go.Shelf
namespace Tx

/-- Wraps, each behind a blank, as long as blanks come. -/
def pWraps : Nat → List UInt8 → Option (List W4 × List UInt8)
  | 0, l => some ([], l)
  | f + 1, l => if Lib.hasPrefix l [32] = true then (pWrap (l.drop 1)).bind fun x => (pWraps f x.2).map fun y => (x.1 :: y.1, y.2) else some ([], l)
theorem pWrap_len {l r : List UInt8} {x : W4} (h : pWrap l = some (x, r)) : r.length ≤ l.length := by
  unfold pWrap at h
  cases h1 : pKey l with
  | none => simp [h1] at h
  | some k =>
    cases h2 : pNeed [62] k.2 with
    | none => simp [h1, h2] at h
    | some r2 =>
      cases h3 : pKey r2 with
      | none => simp [h1, h2, h3] at h
      | some y =>
        simp [h1, h2, h3] at h
        have a := pKey_len (k := k.1) (r := k.2) h1
        have b := pNeed_len h2
        have c := pKey_len (k := y.1) (r := y.2) h3
        rw [← h.2]; omega
theorem hasBlank {l : List UInt8} (h : Lib.hasPrefix l [32] = true) : 1 ≤ l.length := by
  simp [Lib.hasPrefix] at h
  obtain ⟨r, rfl⟩ := h
  simp
/-- How many rounds more make no difference once there are as many as bytes. -/
theorem pWraps_more : ∀ (f g : Nat) (l : List UInt8), l.length ≤ f → l.length ≤ g → pWraps f l = pWraps g l
  | 0, 0, l, _, _ => rfl
  | 0, g + 1, l, h, _ => by
    have : l = [] := List.length_eq_zero_iff.1 (by omega)
    subst this
    simp [pWraps, Lib.hasPrefix]
  | f + 1, 0, l, _, h => by
    have : l = [] := List.length_eq_zero_iff.1 (by omega)
    subst this
    simp [pWraps, Lib.hasPrefix]
  | f + 1, g + 1, l, h1, h2 => by
    by_cases hp : Lib.hasPrefix l [32] = true
    · have hl := hasBlank hp
      simp only [pWraps, hp, if_true]
      cases hw : pWrap (l.drop 1) with
      | none => rfl
      | some x =>
        have := pWrap_len (x := x.1) (r := x.2) hw
        simp only [List.length_drop] at this
        simp only [Option.bind_some]
        rw [pWraps_more f g x.2 (by omega) (by omega)]
    · simp [pWraps, hp]
abbrev pWs (l : List UInt8) : Option (List W4 × List UInt8) := pWraps l.length l
theorem pWs_yes {l l2 : List UInt8} {x : W4} (hp : Lib.hasPrefix l [32] = true) (hw : pWrap (l.drop 1) = some (x, l2)) : pWs l = (pWs l2).map fun y => (x :: y.1, y.2) := by
  have hl := hasBlank hp
  have h2 := pWrap_len hw
  simp only [List.length_drop] at h2
  obtain ⟨f, hf⟩ : ∃ f, l.length = f + 1 := ⟨l.length - 1, by omega⟩
  unfold pWs
  rw [hf]
  simp only [pWraps, hp, if_true, hw, Option.bind_some]
  rw [pWraps_more f l2.length l2 (by omega) (by omega)]
theorem pWs_gone {l : List UInt8} (hp : Lib.hasPrefix l [32] = true) (hw : pWrap (l.drop 1) = none) : pWs l = none := by
  have hl := hasBlank hp
  obtain ⟨f, hf⟩ : ∃ f, l.length = f + 1 := ⟨l.length - 1, by omega⟩
  unfold pWs
  rw [hf]
  simp only [pWraps, hp, if_true, hw]
  rfl
theorem pWs_end {l : List UInt8} (hp : Lib.hasPrefix l [32] = false) : pWs l = some ([], l) := by
  unfold pWs
  cases hl : l.length with
  | zero => rfl
  | succ f =>
    show (if Lib.hasPrefix l [32] = true then _ else _) = _
    rw [if_neg (by rw [hp]; simp)]
def pRekey (l : List UInt8) : Option ((Int × List W4) × List UInt8) :=
  (pNeed sEpoch l).bind fun r => (pNum r).bind fun x => (pWs x.2).bind fun y => if rkB x.1 y.1 = true then some ((x.1, y.1), y.2) else none
theorem wrap_yes {b : Nat} {ev : Value} {l l' : List UInt8} {w : World} {x : W4} (h : Rdr b l w) (hN : NoText b ev w) (hl : l.length ≤ 1048576) (hk : pWrap l = some (x, l')) :
    Calls Tryd.prog 59 #[rp b] w fun e w' => e = .returned (wv x.1 x.2.1 x.2.2.1 x.2.2.2) ∧ Rdr b l' w' ∧ w.grownBy w' (some b) := by
  refine (wrap_any b ev l w h hN hl).mono ?_
  rintro e w' (⟨v, l2, hv, rfl, R, g⟩ | ⟨hv, _⟩)
  · rw [hk] at hv
    simp at hv
    obtain ⟨rfl, rfl⟩ := hv
    exact ⟨rfl, R, g⟩
  · rw [hk] at hv; cases hv
theorem infoWr : (Tryd.prog.info? 63).map (fun i => (i.zero, i.size, i.bytes)) = some (some (.agg #[.int .i64 0, .int .i64 0, .int .i64 0, .int .i64 0]), 4, 32) := by kernel_rfl

/-- How many bytes a reader has still to read. -/
def restLen (b : Nat) (w : World) : Nat := match w.cell? ⟨b, 0, none⟩ with
  | some (.string s) => s.size
  | _ => 0
theorem Rdr.rest {b : Nat} {l : List UInt8} {w : World} (h : Rdr b l w) : restLen b w = l.length := by
  unfold restLen
  rw [h.cell]
  simp [ByteArray.size]
theorem wraps_ne {B j : Nat} {v : Value} {ws : List W4} {W : World} {cs : Array Value} {t : TypeId} (h : Wraps B v ws W) (hj : W.heap[j]? = some (.cells cs t)) (ht : t ≠ 63) : v.ownBlock ≠ some j := by
  intro e
  rcases h.2 with ⟨rfl, _⟩ | ⟨g, cap, cur, rfl, _, hg, _⟩
  · cases e
  · simp [Value.ownBlock] at e
    subst e
    rw [hg] at hj
    injection hj with hj
    injection hj with h1 h2
    exact ht h2.symm
theorem wraps_ne' {B j : Nat} {v : Value} {ws : List W4} {W : World} {cs : Array Value} {t : TypeId} (h : Wraps B v ws W) (hj : W.heap[j]? = some (.cells cs t)) (ht : t ≠ 63) : some j ≠ v.ownBlock := fun e => wraps_ne h hj ht e.symm
theorem wraps_own {W : World} {B n : Nat} {v : Value} {xs : List W4} (h : Wraps B v xs W) (hn : xs.length = n) (o : Obj) : (W.alloc o).ownsRow B 63 4 v n (wcells xs) := by
  subst hn
  exact World.ownsRow.alloc h o
theorem wraps_of {W : World} {B g N c : Nat} {ys : List Value} {xs : List W4} (h : W.ownsRow B 63 4 (.slice (some ⟨g, 0, none⟩) N c) N ys) (e : ys = wcells xs) (hn : xs.length = N) : Wraps B (.slice (some ⟨g, 0, none⟩) N c) xs W := by
  subst e hn
  exact h
theorem cell_four (w : World) (x y u v : Value) (t : TypeId) : ∀ j z, [x, y, u, v][j]? = some z → (w.alloc (.cells #[x, y, u, v] t)).cell? ((⟨w.heap.size, 0, none⟩ : Addr).add j) = some z := fun j z hj => by
  match j, hj with
  | 0, hj => simp at hj; subst hj; simp [Addr.add]
  | 1, hj => simp at hj; subst hj; simp [Addr.add]
  | 2, hj => simp at hj; subst hj; simp [Addr.add]
  | 3, hj => simp at hj; subst hj; simp [Addr.add]
  | j + 4, hj => simp at hj
/-- Where the reading of a rekey stands: lr is still to be read, us are the wraps so far; block w's end is the answer's, q the rekey's. -/
structure RkIs (b : Nat) (w : World) (q : Nat) (ep : Int) (l2 lr : List UInt8) (us : List W4) (x : Value) (W : World) : Prop where
  rd : Rdr b lr W
  res : W.heap[w.heap.size]? = some (rb 0 (.slice none 0 0))
  var : W.heap[q]? = some (rb ep x)
  row : Wraps w.heap.size x us W
  grown : w.grownBy W (some b)
  bLt : b < w.heap.size
  pq : w.heap.size < q
  parsed : pWs l2 = (pWs lr).map fun y => (us ++ y.1, y.2)
  len : us.length + lr.length ≤ 1048576
theorem RkIs.resLt {b : Nat} {w : World} {q : Nat} {ep : Int} {l2 lr : List UInt8} {us : List W4} {x : Value} {W : World} (h : RkIs b w q ep l2 lr us x W) : w.heap.size < W.heap.size := cell_lt (blk2 h.res).1
theorem RkIs.varLt {b : Nat} {w : World} {q : Nat} {ep : Int} {l2 lr : List UInt8} {us : List W4} {x : Value} {W : World} (h : RkIs b w q ep l2 lr us x W) : q < W.heap.size := cell_lt (blk2 h.var).1
theorem RkIs.far {b : Nat} {w : World} {q : Nat} {ep : Int} {l2 lr : List UInt8} {us : List W4} {x : Value} {W : World} (h : RkIs b w q ep l2 lr us x W) : x.ownBlock ≠ some b := wraps_ne h.row h.rd (by decide)
theorem RkIs.start {b q : Nat} {w W : World} {ep : Int} {l2 : List UInt8} (h1 : Rdr b l2 W) (h2 : W.heap[w.heap.size]? = some (rb 0 (.slice none 0 0))) (h3 : W.heap[q]? = some (rb ep (.slice none 0 0))) (h4 : w.grownBy W (some b)) (h5 : l2.length ≤ 1048576)
    (h6 : b < w.heap.size) (h7 : w.heap.size < q) : RkIs b w q ep l2 l2 [] (.slice none 0 0) W :=
  ⟨h1, h2, h3, ⟨by simp [wcells], .inl ⟨rfl, rfl⟩⟩, h4, h6, h7, by simp, by simpa using h5⟩
theorem RkIs.set {b : Nat} {w : World} {q : Nat} {ep : Int} {l2 lr : List UInt8} {us : List W4} {x : Value} {W : World} (h : RkIs b w q ep l2 lr us x W) : RkIs b w q ep l2 lr us x (W.setCell ⟨b, 0, none⟩ (.string ⟨lr.toArray⟩)) := by
  have g := setBy (b := b) W (.string ⟨lr.toArray⟩)
  have hb := h.bLt
  have hq := h.pq
  exact ⟨h.rd.set, (g.block _ h.resLt (by simp; omega)).trans h.res, (g.block _ h.varLt (by simp; omega)).trans h.var, wrapsKept h.row g (fun k e => by cases e; exact h.far), h.grown.trans g, hb, hq, h.parsed, h.len⟩
theorem RkIs.since {b : Nat} {w : World} {q : Nat} {ep : Int} {l2 lr : List UInt8} {us : List W4} {x : Value} {W W' : World} (h : RkIs b w q ep l2 lr us x W) (hb : Below W.heap.size W W') : RkIs b w q ep l2 lr us x W' :=
  ⟨h.rd.since hb, (hb.block _ h.resLt).trans h.res, (hb.block _ h.varLt).trans h.var, wrapsSince h.row hb, grown_ext h.grown hb, h.bLt, h.pq, h.parsed, h.len⟩
theorem RkIs.put {b : Nat} {w : World} {q : Nat} {ep : Int} {l2 lr : List UInt8} {us : List W4} {x : Value} {W W' : World} (h : RkIs b w q ep l2 lr us x W) (g : W.grownBy W' (some w.heap.size)) : Wraps w.heap.size x us W' ∧ Rdr b lr W' ∧ w.grownBy W' (some b) :=
  ⟨wrapsKept h.row g (fun k e => by cases e; exact wraps_ne h.row h.res (by decide)), (g.block b h.rd.lt (by have := h.bLt; simp; omega)).trans h.rd, h.grown.andThen g (fun j e => .inl (by cases e; exact Nat.le_refl _))⟩

theorem RkIs.stored {b q : Nat} {w W : World} {ep : Int} {l2 lr : List UInt8} {us : List W4} {x y : Value} (hb : b < w.heap.size) (hq : w.heap.size < q) (h1 : Rdr b lr W) (h2 : W.heap[w.heap.size]? = some (rb 0 (.slice none 0 0))) (h3 : W.heap[q]? = some (rb ep y)) (h4 : Wraps w.heap.size x us W)
    (h5 : w.grownBy W (some b)) (h6 : pWs l2 = (pWs lr).map fun y => (us ++ y.1, y.2)) (h7 : us.length + lr.length ≤ 1048576) : RkIs b w q ep l2 lr us x (W.setCell ⟨q, 1, none⟩ x) := by
  have e1 : (W.setCell ⟨q, 1, none⟩ x).heap[q]? = some (rb ep x) := by
    simp only [World.setCell, Array.getElem?_modify, h3]
    simp
  have g : W.grownBy (W.setCell ⟨q, 1, none⟩ x) (some q) := ⟨rfl, rfl, rfl, by simp [World.setCell], fun i hi hne => by
    have hq : ¬ q = i := fun e => hne (by rw [e])
    simp [World.setCell, Array.getElem?_modify, hq]⟩
  exact ⟨(g.block b h1.lt (by simp; omega)).trans h1, (g.block _ (cell_lt (blk2 h2).1) (by simp; omega)).trans h2, e1, wrapsKept h4 g (fun k e => by cases e; exact wraps_ne h4 h3 (by decide)), h5.andThen g (fun j e => .inl (by cases e; omega)), hb, hq, h6, h7⟩

set_option maxRecDepth 100000 in
set_option maxHeartbeats 4000000 in
theorem rekey_any (b : Nat) (ev : Value) (l : List UInt8) (w : World) (h : Rdr b l w) (hN : NoText b ev w) (hl : l.length ≤ 1048576) :
    Calls Tryd.prog 40 #[rp b] w fun e w' => (∃ ep ws x l', pRekey l = some ((ep, ws), l') ∧ e = .returned (rv ep x) ∧ Wraps w.heap.size x ws w' ∧ Rdr b l' w' ∧ w.grownBy w' (some b)) ∨ (pRekey l = none ∧ e = gave ev ∧ w.grownBy w' (some b)) := by
  obtain ⟨i0, hii, hz0, hz1, hz2⟩ := info_parts' infoWr
  have HN := hidT hN
  have hbl := h.lt
  have G0 := hidT (World.grownBy_alloc w (rb 0 (.slice none 0 0)) (some b))
  have R0 : Hid (Rdr b l (w.alloc (rb 0 (.slice none 0 0)))) := h.since (oneB _ _)
  have P0 := hidT (heap_new w (rb 0 (.slice none 0 0)))
  clear h hN
  go_enter Tryd.func40, Tryd.ntmps40
  go_wp2_with fail
  refine (need_any b ev l sEpoch _ R0.out (HN.out.grown G0.out)).mono ?_
  rintro e w1 (⟨v, l1, hv, rfl, R1, g1⟩ | ⟨hv, rfl, g1⟩)
  · obtain ⟨hm, rfl⟩ : Hid (pNeed sEpoch l = some l1) ∧ v = .tuple #[] := by
      cases hn : pNeed sEpoch l with
      | none => simp [hn] at hv
      | some x =>
        simp [hn] at hv
        obtain ⟨e1, e2⟩ := hv
        exact ⟨hidT (by rw [← e2]), e1.symm⟩
    have hl1 := Nat.le_trans (pNeed_len hm.out) hl
    have P1 := hidT ((g1.block _ (cell_lt (blk2 P0.out).1) (by simp; omega)).trans P0.out)
    have G1 := hidT (G0.out.trans g1)
    have R1 := hidT R1
    clear g1 hv
    go_wp2_with fail
    refine (number_any b ev l1 _ R1.out (HN.out.grown G1.out) hl1).mono ?_
    rintro e w2 (⟨v, l2, hv, rfl, R2, g2⟩ | ⟨hv, rfl, g2⟩)
    · obtain ⟨ep, hm2, rfl⟩ : ∃ m, Hid (pNum l1 = some (m, l2)) ∧ v = .int .i64 m := by
        cases hn : pNum l1 with
        | none => simp [hn] at hv
        | some x =>
          simp [hn] at hv
          obtain ⟨e1, e2⟩ := hv
          exact ⟨x.1, hidT (by rw [← e2]), e1.symm⟩
      have hl2 := Nat.le_trans (pNum_len hm2.out) hl1
      have P2 := hidT ((g2.block _ (cell_lt (blk2 P1.out).1) (by simp; omega)).trans P1.out)
      have G2 := hidT (G1.out.trans g2)
      have R2 := hidT R2
      have lp2 : w.heap.size < w2.heap.size := cell_lt (blk2 P2.out).1
      have P3 := hidT ((heap_old w2 (rb ep (.slice none 0 0)) lp2).trans P2.out)
      have Q3 := hidT (heap_new w2 (rb ep (.slice none 0 0)))
      have G3 := hidT (G2.out.trans (World.grownBy_alloc w2 (rb ep (.slice none 0 0)) (some b)))
      have R3 : Hid (Rdr b l2 (w2.alloc (rb ep (.slice none 0 0)))) := R2.out.since (oneB _ _)
      clear g2 hv P2 R2 P1 R1 P0 R0
      have HPR := hidT (show pRekey l = (pWs l2).bind fun y => if rkB ep y.1 = true then some ((ep, y.1), y.2) else none by simp [pRekey, hm.out, hm2.out])
      have HREL0 := hidT (RkIs.start (l2 := l2) (ep := ep) (w := w) R3.out P3.out Q3.out G3.out (by omega) hbl lp2)
      clear R3 P3 Q3 G3
      go_wp2
      generalize w2.alloc (.cells #[.int .i64 ep, .slice none 0 0] 39) = w3 at HREL0 ⊢
      have hqn : w.heap.size < w2.heap.size := lp2
      go_loopw [10] (fun _ wr => ∃ lr us x, Hid (RkIs b w w2.heap.size ep l2 lr us x wr)) (fun _ wr => restLen b wr)
      case atStart => exact ⟨l2, [], _, HREL0⟩
      case round =>
        obtain ⟨lr, us, x, HR⟩ := hrel
        clear HREL0
        obtain ⟨ax, cx, hx⟩ := wrapsRow HR.out.row
        obtain ⟨n, HLEN⟩ : ∃ n, Hid (us.length = n) := ⟨_, rfl⟩
        rw [HLEN.out] at hx
        subst hx
        have hlr := HR.out.len
        rw [HLEN.out] at hlr
        have hrest := HR.out.rd.rest
        go_wp2_with fail
        refine (takes_any b lr [32] wr HR.out.rd).mono ?_
        rintro e w4 ⟨rfl, hw4⟩
        cases hp : Lib.hasPrefix lr [32] with
        | false =>
          rw [trim_not hp] at hw4
          have H4 := hidT (show RkIs b w w2.heap.size ep l2 lr us (.slice ax n cx) w4 by rw [hw4]; exact HR.out.set)
          clear hw4
          have HPE := hidT (show pRekey l = if rkB ep us = true then some ((ep, us), lr) else none by rw [HPR.out, H4.out.parsed, pWs_end hp]; simp)
          obtain ⟨c0, c1, f0, f1⟩ := blk2 H4.out.var
          go_wp2_with fail
          refine (rekeyOk_any ep H4.out.row).mono ?_
          rintro e w5 ⟨rfl, b5⟩
          have H5 := hidT (H4.out.since b5)
          clear b5 c0 c1 f0 f1 H4
          obtain ⟨c0, c1, f0, f1⟩ := blk2 H5.out.var
          obtain ⟨d0, d1, z0, z1⟩ := blk2 H5.out.res
          cases hrk : rkB ep us with
          | true =>
            have HT := hidT (set2 (.int .i64 ep) (.slice ax n cx) H5.out.res)
            have HO := hidT (H5.out.put HT.out.2)
            have P6 := hidT HT.out.1
            clear HT
            go_wp2
            generalize ((w5.setCell ⟨w.heap.size, 0, none⟩ (.int .i64 ep)).setCell ⟨w.heap.size, 1, none⟩ (.slice ax n cx)) = w6 at HO P6 ⊢
            obtain ⟨e0, e1, _, _⟩ := blk2 P6.out
            refine bodyPost_ret (v := rv ep (.slice ax n cx)) (by simp [results, Tryd.results40, go_sem, e0, e1]) rfl (.inl ⟨ep, us, _, lr, ?_, rfl, HO.out.1, HO.out.2.1, HO.out.2.2⟩)
            rw [HPE.out, if_pos hrk]
          | false =>
            go_wp2_with (go_at_call 47; refine (giveUp_any b ev _ (HN.out.grown H5.out.grown)).mono ?_; rintro e w' ⟨rfl, rfl⟩)
            exact ⟨rfl, .inr ⟨by rw [HPE.out, if_neg (by simp [hrk])], rfl, H5.out.grown⟩⟩
        | true =>
          rw [trim_is hp] at hw4
          have H4 := hidT (show RkIs b w w2.heap.size ep l2 (lr.drop 1) us (.slice ax n cx) w4 ∨ True from .inr trivial)
          have g4 := hidT (show wr.grownBy w4 (some b) by rw [hw4]; exact setBy _ _)
          have R4 := hidT (show Rdr b (lr.drop 1) w4 by rw [hw4]; exact HR.out.rd.set)
          have V4 := hidT ((g4.out.block _ HR.out.varLt (by have := HR.out.bLt; simp; omega)).trans HR.out.var)
          have S4 := hidT ((g4.out.block _ HR.out.resLt (by have := HR.out.bLt; simp; omega)).trans HR.out.res)
          have W4' := hidT (wrapsKept HR.out.row g4.out (fun k e => by cases e; exact HR.out.far))
          have G4 := hidT (HR.out.grown.trans g4.out)
          have hld : (lr.drop 1).length ≤ 1048576 := by simp; omega
          clear hw4 H4
          cases hk : pWrap (lr.drop 1) with
          | none =>
            have HPN := hidT (show pRekey l = none by rw [HPR.out, HR.out.parsed, pWs_gone hp hk]; rfl)
            have HKN := hidT hk
            clear hk
            obtain ⟨c0, c1, f0, f1⟩ := blk2 V4.out
            have R4d : Hid (Rdr b (lr.drop 1) w4.drew) := R4.out
            have N4d : Hid (NoText b ev w4.drew) := (HN.out.grown G4.out).since (Below.refl _ _).drew
            have G4d := hidT (grown_ext G4.out (Below.refl _ _).drew)
            go_wp2
            refine wp_region_any (by kernel_rfl) ?_
            try (change wpAny _ _ _ _ _ _ _ (World.drew _))
            refine wpAny_take (i := 0) (v := .pointer (some ⟨w2.heap.size, 1, none⟩)) rfl (by kernel_rfl) (by kernel_rfl) (by kernel_rfl) (fun _ _ _ h => h) (Or.inl ⟨by rfl, fun w => by go_simp⟩) ?_
            refine wpAny_take (i := 2) (v := rp b) rfl (by kernel_rfl) (by kernel_rfl) (by kernel_rfl) (fun _ _ _ h => h) (Or.inl ⟨by rfl, fun w => by go_simp⟩) ?_
            refine wpAny_ready (rs := [1, 3]) (by kernel_rfl) (by simp) ?_
            refine AllReady.cons rfl (fun K hK => ?_) (AllReady.cons rfl (fun K hK => ?_) AllReady.nil)
            · go_simp
              refine hK _ _ ?_
              clear hK K
              refine wpAny_ready (rs := [3]) (by kernel_rfl) (by simp) ?_
              refine AllReady.cons rfl (fun K hK => ?_) AllReady.nil
              go_simp
              refine (wrap_any b ev _ _ R4d.out N4d.out hld).mono ?_
              rintro e w5 (⟨v, l3, hv, _⟩ | ⟨_, rfl, g5⟩)
              · rw [HKN.out] at hv
                cases hv
              · exact ⟨rfl, .inr ⟨HPN.out, rfl, G4d.out.trans g5⟩⟩
            · go_simp
              refine (wrap_any b ev _ _ R4d.out N4d.out hld).mono ?_
              rintro e w5 (⟨v, l3, hv, _⟩ | ⟨_, rfl, g5⟩)
              · rw [HKN.out] at hv
                cases hv
              · exact ⟨rfl, .inr ⟨HPN.out, rfl, G4d.out.trans g5⟩⟩
          | some y =>
            obtain ⟨⟨a, b', c, d⟩, l3⟩ := y
            have HK := hidT hk
            have HPS := hidT (show pWs l2 = (pWs l3).map fun y => ((us ++ [(a, b', c, d)]) ++ y.1, y.2) by rw [HR.out.parsed, pWs_yes hp hk]; simp [Function.comp_def])
            have hl3 := pWrap_len hk
            simp only [List.length_drop] at hl3
            have hl1 := hasBlank hp
            clear hk
            obtain ⟨c0, c1, f0, f1⟩ := blk2 V4.out
            have R4d : Hid (Rdr b (lr.drop 1) w4.drew) := R4.out
            have N4d : Hid (NoText b ev w4.drew) := (HN.out.grown G4.out).since (Below.refl _ _).drew
            have W4d : Hid (Wraps w.heap.size (.slice ax n cx) us w4.drew) := wrapsSince W4'.out (Below.refl _ _).drew
            have V4d : Hid (w4.drew.heap[w2.heap.size]? = some (rb ep (.slice ax n cx))) := V4.out
            have S4d : Hid (w4.drew.heap[w.heap.size]? = some (rb 0 (.slice none 0 0))) := S4.out
            have G4d := hidT (grown_ext G4.out (Below.refl _ _).drew)
            have hbb := HR.out.bLt
            have hz4 : w.heap.size ≤ w4.drew.heap.size := G4d.out.size
            have hneq : some w2.heap.size ≠ some b := by simp; omega
            have hnep : some w.heap.size ≠ some b := by simp; omega
            clear W4' V4 S4 R4 G4 g4
            go_wp2
            refine wp_region_any (by kernel_rfl) ?_
            try (change wpAny _ _ _ _ _ _ _ (World.drew _))
            refine wpAny_take (i := 0) (v := .pointer (some ⟨w2.heap.size, 1, none⟩)) rfl (by kernel_rfl) (by kernel_rfl) (by kernel_rfl) (fun _ _ _ h => h) (Or.inl ⟨by rfl, fun w => by go_simp⟩) ?_
            refine wpAny_take (i := 2) (v := rp b) rfl (by kernel_rfl) (by kernel_rfl) (by kernel_rfl) (fun _ _ _ h => h) (Or.inl ⟨by rfl, fun w => by go_simp⟩) ?_
            refine wpAny_ready (rs := [1, 3]) (by kernel_rfl) (by simp) ?_
            refine AllReady.cons rfl (fun K hK => ?_) (AllReady.cons rfl (fun K hK => ?_) AllReady.nil)
            · go_simp
              refine hK _ _ ?_
              clear hK K
              refine wpAny_ready (rs := [3]) (by kernel_rfl) (by simp) ?_
              refine AllReady.cons rfl (fun K hK => ?_) AllReady.nil
              go_simp
              refine (wrap_yes (l := lr.drop 1) R4d.out N4d.out hld HK.out).mono ?_
              rintro e w5 ⟨rfl, R5, g5⟩
              have V5 := hidT ((g5.block _ ((Array.getElem?_eq_some_iff.1 V4d.out).1) hneq).trans V4d.out)
              have S5 := hidT ((g5.block _ ((Array.getElem?_eq_some_iff.1 S4d.out).1) hnep).trans S4d.out)
              have W5 := hidT (wrapsKept W4d.out g5 (fun k e => by cases e; exact wraps_ne W4d.out R4d.out (by decide)))
              have G5 := hidT (G4d.out.trans g5)
              have R5 := hidT R5
              have hs5 := g5.size
              clear g5 c0 c1 f0 f1
              obtain ⟨c0, c1, f0, f1⟩ := blk2 V5.out
              refine hK _ _ ?_
              clear hK K
              refine wpAny_ready (rs := [4]) (by kernel_rfl) (by simp) ?_
              refine AllReady.cons rfl (fun K hK => ?_) AllReady.nil
              go_simp
              refine hK _ _ ?_
              clear hK K
              have V6 := hidT ((heap_old w5 (.cells #[.int .i64 a, .int .i64 b', .int .i64 c, .int .i64 d] 63) ((Array.getElem?_eq_some_iff.1 V5.out).1)).trans V5.out)
              clear c0 c1 f0 f1
              obtain ⟨c0, c1, f0, f1⟩ := blk2 V6.out
              refine wpAny_ready (rs := [5]) (by kernel_rfl) (by simp) ?_
              refine AllReady.cons rfl (fun K hK => ?_) AllReady.nil
              refine step_append_s _ (by rfl) _ _ _ (by rfl) w.heap.size 63 i0 (.agg #[.int .i64 0, .int .i64 0, .int .i64 0, .int .i64 0]) 4 32 Tryd.underlying37 hii hz0 hz1 hz2 rfl (by omega) (.slice ax n cx) n _ (by rfl) (wraps_own W5.out HLEN.out _) ⟨w5.heap.size, 0, none⟩ 1 _ [.int .i64 a, .int .i64 b', .int .i64 c, .int .i64 d] (by rfl) (by rfl) (cell_four _ _ _ _ _ _) (by simp [Value.oneCell']) (by omega) (by unfold maxLen; omega) (by omega) (Nat.le_trans hz4 (Nat.le_trans hs5 (by simp))) _ rfl ?_
              intro gB cB wB hownB hgB hatB hltB
              refine hK _ _ ?_
              clear hK K
              have hx5 : Hid (∀ j, (Value.slice ax n cx).ownBlock = some j → w.heap.size ≤ j ∧ j ≠ b ∧ j ≠ w.heap.size ∧ j ≠ w2.heap.size) := fun j e => ⟨(W5.out.lt j e).1, fun e' => wraps_ne W5.out R5.out (by decide) (e' ▸ e), fun e' => wraps_ne W5.out S5.out (by decide) (e' ▸ e), fun e' => wraps_ne W5.out V5.out (by decide) (e' ▸ e)⟩
              have V7 := hidT ((hgB.block _ ((Array.getElem?_eq_some_iff.1 V6.out).1) (fun e => (hx5.out _ e.symm).2.2.2 rfl)).trans V6.out)
              have S7 := hidT ((hgB.block _ (Nat.lt_of_lt_of_le ((Array.getElem?_eq_some_iff.1 S5.out).1) (by simp)) (fun e => (hx5.out _ e.symm).2.2.1 rfl)).trans ((heap_old w5 (.cells #[.int .i64 a, .int .i64 b', .int .i64 c, .int .i64 d] 63) ((Array.getElem?_eq_some_iff.1 S5.out).1)).trans S5.out))
              have R7 : Hid (Rdr b l3 wB) := (hgB.block b (Nat.lt_of_lt_of_le R5.out.lt (by simp)) (fun e => (hx5.out _ e.symm).2.1 rfl)).trans (R5.out.since (oneB w5 (.cells #[.int .i64 a, .int .i64 b', .int .i64 c, .int .i64 d] 63)))
              have G7 := hidT ((grown_ext G5.out (oneB w5 (.cells #[.int .i64 a, .int .i64 b', .int .i64 c, .int .i64 d] 63))).andThen hgB (fun j e => .inl (hx5.out j e).1))
              have W7 : Hid (Wraps w.heap.size (.slice (some ⟨gB, 0, none⟩) (n + 1) cB) (us ++ [(a, b', c, d)]) wB) := wraps_of hownB (by rw [wcells_append]; rfl) (by simp [HLEN.out])
              clear c0 c1 f0 f1 hgB hownB
              obtain ⟨c0, c1, f0, f1⟩ := blk2 V7.out
              refine wpAny_take (i := 6) (v := .pointer (some ⟨w2.heap.size, 1, none⟩)) rfl (by kernel_rfl) (by kernel_rfl) (by kernel_rfl) (fun _ _ _ h => h) (Or.inl ⟨by rfl, fun w => by go_simp⟩) ?_
              refine wpAny_ready (rs := [7]) (by kernel_rfl) (by simp) ?_
              refine AllReady.cons rfl (fun K hK => ?_) AllReady.nil
              go_simp
              refine hK _ _ ?_
              clear hK K
              refine wpAny_done (by kernel_rfl) ?_ _
              have H8 := hidT (RkIs.stored hbb lp2 R7.out S7.out V7.out W7.out G7.out HPS.out (by simp [HLEN.out]; omega))
              clear V7 S7 R7 G7 W7 c0 c1 f0 f1
              go_wp2
              go_roundw
              case rel => exact ⟨_, _, _, H8⟩
              case measure =>
                rw [H8.out.rd.rest, hrest]
                omega
            · go_simp
              refine (wrap_yes (l := lr.drop 1) R4d.out N4d.out hld HK.out).mono ?_
              rintro e w5 ⟨rfl, R5, g5⟩
              have V5 := hidT ((g5.block _ ((Array.getElem?_eq_some_iff.1 V4d.out).1) hneq).trans V4d.out)
              have S5 := hidT ((g5.block _ ((Array.getElem?_eq_some_iff.1 S4d.out).1) hnep).trans S4d.out)
              have W5 := hidT (wrapsKept W4d.out g5 (fun k e => by cases e; exact wraps_ne W4d.out R4d.out (by decide)))
              have G5 := hidT (G4d.out.trans g5)
              have R5 := hidT R5
              have hs5 := g5.size
              clear g5 c0 c1 f0 f1
              obtain ⟨c0, c1, f0, f1⟩ := blk2 V5.out
              refine hK _ _ ?_
              clear hK K
              refine wpAny_ready (rs := [1, 4]) (by kernel_rfl) (by simp) ?_
              refine AllReady.cons rfl (fun K hK => ?_) (AllReady.cons rfl (fun K hK => ?_) AllReady.nil)
              · go_simp
                refine hK _ _ ?_
                clear hK K
                refine wpAny_ready (rs := [4]) (by kernel_rfl) (by simp) ?_
                refine AllReady.cons rfl (fun K hK => ?_) AllReady.nil
                go_simp
                refine hK _ _ ?_
                clear hK K
                have V6 := hidT ((heap_old w5 (.cells #[.int .i64 a, .int .i64 b', .int .i64 c, .int .i64 d] 63) ((Array.getElem?_eq_some_iff.1 V5.out).1)).trans V5.out)
                clear c0 c1 f0 f1
                obtain ⟨c0, c1, f0, f1⟩ := blk2 V6.out
                refine wpAny_ready (rs := [5]) (by kernel_rfl) (by simp) ?_
                refine AllReady.cons rfl (fun K hK => ?_) AllReady.nil
                refine step_append_s _ (by rfl) _ _ _ (by rfl) w.heap.size 63 i0 (.agg #[.int .i64 0, .int .i64 0, .int .i64 0, .int .i64 0]) 4 32 Tryd.underlying37 hii hz0 hz1 hz2 rfl (by omega) (.slice ax n cx) n _ (by rfl) (wraps_own W5.out HLEN.out _) ⟨w5.heap.size, 0, none⟩ 1 _ [.int .i64 a, .int .i64 b', .int .i64 c, .int .i64 d] (by rfl) (by rfl) (cell_four _ _ _ _ _ _) (by simp [Value.oneCell']) (by omega) (by unfold maxLen; omega) (by omega) (Nat.le_trans hz4 (Nat.le_trans hs5 (by simp))) _ rfl ?_
                intro gB cB wB hownB hgB hatB hltB
                refine hK _ _ ?_
                clear hK K
                have hx5 : Hid (∀ j, (Value.slice ax n cx).ownBlock = some j → w.heap.size ≤ j ∧ j ≠ b ∧ j ≠ w.heap.size ∧ j ≠ w2.heap.size) := fun j e => ⟨(W5.out.lt j e).1, fun e' => wraps_ne W5.out R5.out (by decide) (e' ▸ e), fun e' => wraps_ne W5.out S5.out (by decide) (e' ▸ e), fun e' => wraps_ne W5.out V5.out (by decide) (e' ▸ e)⟩
                have V7 := hidT ((hgB.block _ ((Array.getElem?_eq_some_iff.1 V6.out).1) (fun e => (hx5.out _ e.symm).2.2.2 rfl)).trans V6.out)
                have S7 := hidT ((hgB.block _ (Nat.lt_of_lt_of_le ((Array.getElem?_eq_some_iff.1 S5.out).1) (by simp)) (fun e => (hx5.out _ e.symm).2.2.1 rfl)).trans ((heap_old w5 (.cells #[.int .i64 a, .int .i64 b', .int .i64 c, .int .i64 d] 63) ((Array.getElem?_eq_some_iff.1 S5.out).1)).trans S5.out))
                have R7 : Hid (Rdr b l3 wB) := (hgB.block b (Nat.lt_of_lt_of_le R5.out.lt (by simp)) (fun e => (hx5.out _ e.symm).2.1 rfl)).trans (R5.out.since (oneB w5 (.cells #[.int .i64 a, .int .i64 b', .int .i64 c, .int .i64 d] 63)))
                have G7 := hidT ((grown_ext G5.out (oneB w5 (.cells #[.int .i64 a, .int .i64 b', .int .i64 c, .int .i64 d] 63))).andThen hgB (fun j e => .inl (hx5.out j e).1))
                have W7 : Hid (Wraps w.heap.size (.slice (some ⟨gB, 0, none⟩) (n + 1) cB) (us ++ [(a, b', c, d)]) wB) := wraps_of hownB (by rw [wcells_append]; rfl) (by simp [HLEN.out])
                clear c0 c1 f0 f1 hgB hownB
                obtain ⟨c0, c1, f0, f1⟩ := blk2 V7.out
                refine wpAny_take (i := 6) (v := .pointer (some ⟨w2.heap.size, 1, none⟩)) rfl (by kernel_rfl) (by kernel_rfl) (by kernel_rfl) (fun _ _ _ h => h) (Or.inl ⟨by rfl, fun w => by go_simp⟩) ?_
                refine wpAny_ready (rs := [7]) (by kernel_rfl) (by simp) ?_
                refine AllReady.cons rfl (fun K hK => ?_) AllReady.nil
                go_simp
                refine hK _ _ ?_
                clear hK K
                refine wpAny_done (by kernel_rfl) ?_ _
                have H8 := hidT (RkIs.stored hbb lp2 R7.out S7.out V7.out W7.out G7.out HPS.out (by simp [HLEN.out]; omega))
                clear V7 S7 R7 G7 W7 c0 c1 f0 f1
                go_wp2
                go_roundw
                case rel => exact ⟨_, _, _, H8⟩
                case measure =>
                  rw [H8.out.rd.rest, hrest]
                  omega
              · go_simp
                refine hK _ _ ?_
                clear hK K
                have V6 := hidT ((heap_old w5 (.cells #[.int .i64 a, .int .i64 b', .int .i64 c, .int .i64 d] 63) ((Array.getElem?_eq_some_iff.1 V5.out).1)).trans V5.out)
                clear c0 c1 f0 f1
                obtain ⟨c0, c1, f0, f1⟩ := blk2 V6.out
                refine wpAny_ready (rs := [1]) (by kernel_rfl) (by simp) ?_
                refine AllReady.cons rfl (fun K hK => ?_) AllReady.nil
                go_simp
                refine hK _ _ ?_
                clear hK K
                refine wpAny_ready (rs := [5]) (by kernel_rfl) (by simp) ?_
                refine AllReady.cons rfl (fun K hK => ?_) AllReady.nil
                refine step_append_s _ (by rfl) _ _ _ (by rfl) w.heap.size 63 i0 (.agg #[.int .i64 0, .int .i64 0, .int .i64 0, .int .i64 0]) 4 32 Tryd.underlying37 hii hz0 hz1 hz2 rfl (by omega) (.slice ax n cx) n _ (by rfl) (wraps_own W5.out HLEN.out _) ⟨w5.heap.size, 0, none⟩ 1 _ [.int .i64 a, .int .i64 b', .int .i64 c, .int .i64 d] (by rfl) (by rfl) (cell_four _ _ _ _ _ _) (by simp [Value.oneCell']) (by omega) (by unfold maxLen; omega) (by omega) (Nat.le_trans hz4 (Nat.le_trans hs5 (by simp))) _ rfl ?_
                intro gB cB wB hownB hgB hatB hltB
                refine hK _ _ ?_
                clear hK K
                have hx5 : Hid (∀ j, (Value.slice ax n cx).ownBlock = some j → w.heap.size ≤ j ∧ j ≠ b ∧ j ≠ w.heap.size ∧ j ≠ w2.heap.size) := fun j e => ⟨(W5.out.lt j e).1, fun e' => wraps_ne W5.out R5.out (by decide) (e' ▸ e), fun e' => wraps_ne W5.out S5.out (by decide) (e' ▸ e), fun e' => wraps_ne W5.out V5.out (by decide) (e' ▸ e)⟩
                have V7 := hidT ((hgB.block _ ((Array.getElem?_eq_some_iff.1 V6.out).1) (fun e => (hx5.out _ e.symm).2.2.2 rfl)).trans V6.out)
                have S7 := hidT ((hgB.block _ (Nat.lt_of_lt_of_le ((Array.getElem?_eq_some_iff.1 S5.out).1) (by simp)) (fun e => (hx5.out _ e.symm).2.2.1 rfl)).trans ((heap_old w5 (.cells #[.int .i64 a, .int .i64 b', .int .i64 c, .int .i64 d] 63) ((Array.getElem?_eq_some_iff.1 S5.out).1)).trans S5.out))
                have R7 : Hid (Rdr b l3 wB) := (hgB.block b (Nat.lt_of_lt_of_le R5.out.lt (by simp)) (fun e => (hx5.out _ e.symm).2.1 rfl)).trans (R5.out.since (oneB w5 (.cells #[.int .i64 a, .int .i64 b', .int .i64 c, .int .i64 d] 63)))
                have G7 := hidT ((grown_ext G5.out (oneB w5 (.cells #[.int .i64 a, .int .i64 b', .int .i64 c, .int .i64 d] 63))).andThen hgB (fun j e => .inl (hx5.out j e).1))
                have W7 : Hid (Wraps w.heap.size (.slice (some ⟨gB, 0, none⟩) (n + 1) cB) (us ++ [(a, b', c, d)]) wB) := wraps_of hownB (by rw [wcells_append]; rfl) (by simp [HLEN.out])
                clear c0 c1 f0 f1 hgB hownB
                obtain ⟨c0, c1, f0, f1⟩ := blk2 V7.out
                refine wpAny_take (i := 6) (v := .pointer (some ⟨w2.heap.size, 1, none⟩)) rfl (by kernel_rfl) (by kernel_rfl) (by kernel_rfl) (fun _ _ _ h => h) (Or.inl ⟨by rfl, fun w => by go_simp⟩) ?_
                refine wpAny_ready (rs := [7]) (by kernel_rfl) (by simp) ?_
                refine AllReady.cons rfl (fun K hK => ?_) AllReady.nil
                go_simp
                refine hK _ _ ?_
                clear hK K
                refine wpAny_done (by kernel_rfl) ?_ _
                have H8 := hidT (RkIs.stored hbb lp2 R7.out S7.out V7.out W7.out G7.out HPS.out (by simp [HLEN.out]; omega))
                clear V7 S7 R7 G7 W7 c0 c1 f0 f1
                go_wp2
                go_roundw
                case rel => exact ⟨_, _, _, H8⟩
                case measure =>
                  rw [H8.out.rd.rest, hrest]
                  omega
    · exact ⟨rfl, .inr ⟨by
        have : pNum l1 = none := by simpa using hv
        simp [pRekey, hm.out, this], rfl, G1.out.trans g2⟩⟩
  · exact ⟨rfl, .inr ⟨by
      have : pNeed sEpoch l = none := by simpa using hv
      simp [pRekey, this], rfl, G0.out.trans g1⟩⟩
end Tx
end Go.Proofs.YtmlmlmcmhpahpaaDoor
