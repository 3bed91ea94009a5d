/- l3Leave of the model: its first loop and its end. -/
import Derived.Test.YtjilbfohfgalkaaPart4
namespace Go.Proofs.Ytjilbfohfgalkaa
open Go.RowKit

theorem ne_is {B C : Nat} {v u : Value} {ws : List Int} {xs : List (Int × Int)} {W : World} (h : Ints B v ws W) (h' : Seats C u xs W) : ∀ k, v.ownBlock = some k → u.ownBlock ≠ some k := rows_ne (r := fI B v ws) (s := fS C u xs) h h' (show (2 : TypeId) ≠ 90 by decide)
theorem seatCell2 (W : World) (n v : Int) (S : Nat) (hS : W.heap.size = S) : ∀ j u, [Value.int .i64 n, Value.int .i64 v][j]? = some u → (W.alloc (.cells #[.int .i64 n, .int .i64 v] 90)).cell? ((⟨S, 0, none⟩ : Addr).add j) = some u := by
  subst hS
  intro j u h
  match j with
  | 0 => simp at h; subst h; simp [Addr.add]
  | 1 => simp at h; subst h; simp [Addr.add]
  | j + 2 => simp at h
theorem seatRow2 {W : World} {B n : Nat} {v : Value} {ys : List Value} {xs : List (Int × Int)} (h : W.ownsRow B 90 2 v n ys) (e : ys = kcells xs) (hn : xs.length = n) : ∃ a c, v = .slice a n c ∧ Seats B (.slice a n c) xs W := by
  subst e hn
  have hK : Seats B v xs W := h
  obtain ⟨a, c, hv, _, _⟩ := hK.row
  subst hv
  exact ⟨a, c, rfl, hK⟩
theorem pathF_ok : ∀ f m, ∀ z ∈ pathF f m, 1 ≤ z ∧ z ≤ (m : Int) := by
  intro f
  induction f with
  | zero => intro m z hz; simp [pathF] at hz
  | succ f ih =>
    intro m z hz
    unfold pathF at hz
    split at hz
    · simp at hz
    · rcases List.mem_cons.1 hz with rfl | hz
      · omega
      · have := ih _ z hz
        omega
theorem path_in (l : Int) : ∀ i (hi : i < (path l).length), 1 ≤ (path l)[i] ∧ (path l)[i] ≤ 15 := by
  intro i hi
  have hm := List.getElem_mem hi
  generalize (path l)[i] = z at hm
  unfold path at hm
  split at hm
  · have := pathF_ok _ _ z hm
    omega
  · simp at hm
/-- The loop that fills a list of seats: the world behind a round that appends. -/
theorem Hex.seat {w0 W W' : World} {b0 b1 : Nat × Obj} {ex : RowF} {B : Nat} {v v' : Value} {ls : List (Int × Int)} {x1 x2 : Int} {o : Obj} (H : Hex w0 [b0, b1] [fS B v ls] ex W) (ht0 : objType b0.2 ≠ some 90) (ht1 : objType b1.2 ≠ some 90) (hg : (W.alloc o).grownBy W' v.ownBlock) (h : Seats B v' (ls ++ [(x1, x2)]) W') : Hex w0 [b0, b1] [fS B v' (ls ++ [(x1, x2)])] ex W' :=
  (H.since (one_below W o)).turn0 hg h rfl ⟨(fun s hs => (by cases hs)), fun p hp => by
    simp only [List.mem_cons, List.not_mem_nil, or_false] at hp
    rcases hp with rfl | rfl
    · exact ht0
    · exact ht1⟩

/-- What the second loop holds: the versions are fifteen. -/
def LvR (w : World) (bs : List (Nat × Obj)) (rs : List RowF) (B : Nat) (x : Value) (W : World) : Prop := ∃ vs', vs'.length = 15 ∧ Hex w bs rs (fI B x vs') W
/-- The same, with the versions named. -/
def LvV (w : World) (bs : List (Nat × Obj)) (rs : List RowF) (B : Nat) (x : Value) (V : List Int) (W : World) : Prop := V.length = 15 ∧ Hex w bs rs (fI B x V) W
theorem LvV.weak {w : World} {bs : List (Nat × Obj)} {rs : List RowF} {B : Nat} {x : Value} {V : List Int} {W : World} (h : LvV w bs rs B x V W) : LvR w bs rs B x W := ⟨V, h.1, h.2⟩
def idx (l : List Int) : List Nat := l.map fun z => (z - 1).toNat
theorem raise_step (vs ps : List Int) (k nd : Nat) (hk : k < ps.length) (h : ps[k] = (nd : Int) + 1) : raiseL vs (idx (ps.take (k + 1))) = (raiseL vs (idx (ps.take k))).set nd (wrap64 (vAt (raiseL vs (idx (ps.take k))) nd + 1)) := by
  have e : idx (ps.take (k + 1)) = idx (ps.take k) ++ [nd] := by
    rw [List.take_add_one, List.getElem?_eq_getElem hk, h]
    simp [idx]
  rw [e, raiseL_snoc]
theorem litWs (W : World) (p : Addr) (v : Value) : ((W.setCell p v).alloc (.cells #[] 112)).ownsRow W.heap.size 112 4 (.slice (some ⟨W.heap.size, 0, none⟩) 0 0) 0 [] := by
  have := World.ownsRow_lit (base := W.heap.size) (size := 4) (e := 112) (W.setCell p v) #[] 0 (by simp [World.setCell]) (by decide) rfl
  simpa [World.setCell] using this
/-- The cells that the second loop reads. -/
theorem LvR.cells {w W : World} {b0 : Nat × Obj} {s B D k nd : Nat} {ep : Int} {x y pv : Value} {ps : List Int} {rs : List RowF} (h : LvR w [b0, (s, svb ep x y)] (fI D pv ps :: rs) B x W) (gp cp : Nat) (hpv : pv = .slice (some ⟨gp, 0, none⟩) ps.length cp) (hk : k < ps.length) (hnd : ps[k] = (nd : Int) + 1) :
    W.cell? ⟨s, 0, none⟩ = some (.int .i64 ep) ∧ W.cell? ⟨s, 1, none⟩ = some x ∧ W.cell? ⟨s, 2, none⟩ = some y ∧ W.cell? ⟨gp, k, none⟩ = some (.int .i64 ((nd : Int) + 1)) ∧ LvR w [b0, (s, svb ep x y)] (fI D pv ps :: rs) B x W := by
  obtain ⟨vs', hv', H⟩ := h
  obtain ⟨⟨p0, p1, p2⟩, _, _, _⟩ := box3 H.b1
  refine ⟨p0, p1, p2, ?_, vs', hv', H⟩
  have hI : Ints D pv ps W := H.r0
  rcases hI.form with ⟨e, e'⟩ | ⟨g', cap', e, _, _, _, _, h3⟩
  · rw [e'] at hk; simp at hk
  · rw [hpv] at e
    injection e with e
    injection e with e
    injection e with e
    subst e
    rw [← hnd]
    exact (h3 k hk).1

theorem fourOf {a b c d e : Prop} (h : a ∧ b ∧ c ∧ d ∧ e) : a ∧ b ∧ c ∧ d := ⟨h.1, h.2.1, h.2.2.1, h.2.2.2.1⟩
theorem wrapAlone {D E F : Nat} {u v y : Value} {ps : List Int} {ws : List W4} {ls : List (Int × Int)} {s t : Nat} {e1 e2 : Int} {x1 y1 x2 y2 : Value} :
    (∀ r, r ∈ [fI D u ps, fS F y ls] → r.t ≠ (fW E v ws).t) ∧ ∀ p, p ∈ [(s, svb e1 x1 y1), (t, svb e2 x2 y2)] → objType p.2 ≠ some (fW E v ws).t := by
  refine ⟨fun r hr => ?_, fun p hp => ?_⟩
  · simp only [List.mem_cons, List.not_mem_nil, or_false] at hr
    rcases hr with rfl | rfl <;> simp
  · simp only [List.mem_cons, List.not_mem_nil, or_false] at hp
    rcases hp with rfl | rfl <;> simp [objType]

set_option maxRecDepth 100000 in
set_option maxHeartbeats 4000000 in
theorem l3Leave_eq {B C : Nat} {x y : Value} {vs : List Int} {ss : List (Int × Int)} {w : World} (ep mem : Int) (hl : vs.length = 15) (hx : Ints B x vs w) (hy : Seats C y ss w) (hs : ss.length ≤ 100) :
    Calls Try.prog 84 #[svv ep x y, .int .i64 mem] w fun e w' => ∃ y' v' ws', e = .returned (.tuple #[svv ep x y', v']) ∧ Ints B x (raiseL vs (idx (path (leafV ss mem)))) w' ∧ Seats w.heap.size y' (ss.filter fun s => decide (s.1 ≠ mem)) w' ∧ Wraps w.heap.size v' ws' w' ∧ ws'.length ≤ 8 ∧ w.grownBy w' x.ownBlock := by
  obtain ⟨iS, hiS, hS0, hS1, hS2⟩ := info_parts infoS2
  obtain ⟨ax, cx, hvx, _, _⟩ := hx.row
  obtain ⟨ay, cy, hvy, hmy, _⟩ := hy.row
  subst hvx hvy
  unfold maxLen at hmy
  rw [hl] at hx ⊢
  have HY : Hid (∀ W, w.grownBy W (Value.slice ax 15 cx).ownBlock → Seats C (.slice ay ss.length cy) ss W) := fun W hg => hy.kept hg (ne_is hx hy)
  have H1 := ((Hex.start w (ex := fI B (.slice ax 15 cx) vs) (show (fI B (.slice ax 15 cx) vs).on w from hx)).alloc (svb ep (.slice ax 15 cx) (.slice ay ss.length cy))).alloc (svb 0 (.slice none 0 0) (.slice none 0 0))
  simp only [World.size_alloc] at H1
  have HH1 := hidS H1
  obtain ⟨⟨p0, p1, p2⟩, _, _, _⟩ := box3 H1.b1
  have hn0 : ss.length ≤ 100 := hs
  clear hx hy H1 hs
  generalize hn : ss.length = n at *
  have HN := hidS hn
  clear hn
  go_enter Try.func84, Try.ntmps84
  go_wp2_with fail
  generalize (w.alloc (svb ep (.slice ax 15 cx) (.slice ay n cy))).alloc (svb 0 (.slice none 0 0) (.slice none 0 0)) = w1 at *
  refine (l3Leaf_any ep mem (HY.out _ HH1.out.bel)).mono ?_
  rintro e w2 ⟨rfl, b2⟩
  generalize hlf : leafV ss mem = lf
  have HLF := hidS hlf
  clear hlf
  have HH3 := hidS ((HH1.out.since b2).add (one_below w2 (.cells #[] 90)) (r := fS w2.heap.size (.slice (some ⟨w2.heap.size, 0, none⟩) 0 0) []) (litS w2 (Nat.le_refl _)) (Nat.le_refl _))
  have p0 := cell_since p0 b2
  have p1 := cell_since p1 b2
  have p2 := cell_since p2 b2
  have hs2 : w.heap.size ≤ w2.heap.size := Nat.le_trans HH1.out.bel.size b2.size
  clear b2 HH1
  have hs3 : w2.heap.size ≤ (w2.alloc (.cells #[] 90)).heap.size := by simp
  go_wp2
  generalize w2.alloc (.cells #[] 90) = w3 at *
  clear p0 p1 p2
  go_loopw [7, 8] (fun lv i wr => ∃ (k m : Nat) (a : Option Addr) (c : Nat) (ls : List (Int × Int)), lv = .slice a m c ∧ i = .int .i64 (k : Int) ∧ k ≤ n ∧ m ≤ k ∧ w2.heap.size ≤ wr.heap.size ∧ Hid (ls.length = m) ∧ Hid (ls = (ss.take k).filter fun s => decide (s.1 ≠ mem)) ∧ Hid (Hex w [(w.heap.size + 1, svb 0 (.slice none 0 0) (.slice none 0 0)), (w.heap.size, svb ep (.slice ax 15 cx) (.slice ay n cy))] [fS w2.heap.size (.slice a m c) ls] (fI B (.slice ax 15 cx) vs) wr)) (fun _ i _ => n - (intOf i).toNat)
  case atStart => exact ⟨0, 0, _, _, [], rfl, rfl, by omega, Nat.le_refl _, hs3, rfl, (by show _ = _; simp), HH3⟩
  case round =>
    obtain ⟨k, m, a, c, ls, rfl, rfl, hk, hmk, hsw, HM, HFl, HH⟩ := hrel
    obtain ⟨⟨p0, p1, p2⟩, fr0, fr1, fr2⟩ := box3 HH.out.b1
    by_cases hlt : k < n
    · obtain ⟨g, ha, hg, hseg⟩ : ∃ g, ay = some ⟨g, 0, none⟩ ∧ g < wr.heap.size ∧ KSeg g 0 ss wr := by
        obtain ⟨a', c', hv', _, hrow⟩ := (HY.out _ HH.out.bel).row
        injection hv' with e1 e2 e3
        subst e1
        rcases hrow with e | e
        · have := HN.out; rw [e] at this; simp at this; omega
        · exact e
      subst ha
      have hlk : k < ss.length := by have := HN.out; omega
      obtain ⟨a1, a2⟩ := hseg k hlk
      simp only [Nat.zero_add] at a1 a2
      have HG := hidS (show ss.take (k + 1) = ss.take k ++ [ss[k]] by rw [List.take_add_one, List.getElem?_eq_getElem hlk]; rfl)
      generalize ss[k] = sk at *
      obtain ⟨x1, x2⟩ := sk
      dsimp only at a1 a2
      clear hseg
      by_cases hz : x1 = mem
      · have hz' : (x1 == mem) = true := by simpa using hz
        go_wp2
        go_roundw
        case rel => exact ⟨k + 1, m, a, c, ls, rfl, by go_num, by omega, by omega, hsw, HM, (by show _ = _; rw [HG.out, List.filter_append, ← HFl.out]; simp [hz]), HH⟩
        case measure => simp [intOf] <;> omega
      · have hz' : (x1 == mem) = false := by simpa using hz
        have HR0 := hidS (show Seats w2.heap.size (.slice a m c) ls wr from HH.out.r0)
        have HOwn : Hid ((wr.alloc (.cells #[.int .i64 x1, .int .i64 x2] 90)).ownsRow w2.heap.size 90 2 (.slice a m c) m (kcells ls)) := by
          have := World.ownsRow.alloc HR0.out (.cells #[.int .i64 x1, .int .i64 x2] 90)
          rwa [HM.out] at this
        go_wp2_with (at_builtin; refine wpList_append_own _ rfl _ _ 41 rfl w2.heap.size 90 iS (.agg #[.int .i64 0, .int .i64 0]) 2 16 Try.underlying41 hiS hS0 hS1 hS2 rfl (by decide) _ _ _ rfl HOwn.out ⟨wr.heap.size, 0, none⟩ 1 1 [.int .i64 x1, .int .i64 x2] rfl rfl (seatCell2 _ _ _ _ rfl) (by simp [Value.oneCell']) (by unfold maxLen; omega) (by omega) (by simp <;> omega) ?_; intro v' w8 hown' hgrow _; obtain ⟨a8, c8, hv', hI'⟩ := seatRow2 (xs := ls ++ [(x1, x2)]) hown' (by rw [kcells_append]; rfl) (by simp [HM.out]); subst hv'; have HH8 := hidS (HH.out.seat (fun e => by simp [objType] at e) (fun e => by simp [objType] at e) hgrow hI'); have hs8 : w2.heap.size ≤ w8.heap.size := Nat.le_trans hsw (Nat.le_trans (by simp) hgrow.size); clear hown' hI' hgrow)
        go_roundw
        case rel => exact ⟨k + 1, m + 1, a8, c8, ls ++ [(x1, x2)], by go_num, by go_num, by omega, by omega, hs8, (by show _ = _; simp [HM.out]), (by show _ = _; rw [HG.out, List.filter_append, ← HFl.out]; simp [hz]), HH8⟩
        case measure => simp [intOf] <;> omega
    · rename World => wo
      have HFl2 := hidS (show ls = ss.filter (fun s => decide (s.1 ≠ mem)) by have h1 := HFl.out; rwa [List.take_of_length_le (by have := HN.out; omega)] at h1)
      clear HFl
      have HH5 := hidS ((HH.out.s312 (.slice a m c)).add (one_below _ (.cells #[] 112)) (r := fW wo.heap.size (.slice (some ⟨wo.heap.size, 0, none⟩) 0 0) []) (litWs wo _ _) (by simp [World.setCell]))
      have hso : w.heap.size ≤ wo.heap.size := Nat.le_trans hs2 hsw
      have hs5 : wo.heap.size ≤ ((wo.setCell ⟨w.heap.size, 2, none⟩ (.slice a m c)).alloc (.cells #[] 112)).heap.size := by simp [World.setCell]
      go_wp2_with fail
      generalize (wo.setCell ⟨w.heap.size, 2, none⟩ (.slice a m c)).alloc (.cells #[] 112) = w5 at *
      refine (specPathOf_any lf _).mono ?_
      rintro e w6 ⟨pv, rfl, hP, b6⟩
      obtain ⟨ap, cp, hvp, hmp, _⟩ := hP.row
      subst hvp
      have hpl := path_len lf
      have HPI := hidS (path_in lf)
      have HH6 := hidS (HH5.out.add b6 (r := fI w5.heap.size (.slice ap (path lf).length cp) (path lf)) hP (Nat.le_refl _))
      have hs6 : wo.heap.size ≤ w6.heap.size := Nat.le_trans hs5 b6.size
      clear hP b6 HH5 HH p0 p1 p2 fr0 fr1 fr2 HH3
      generalize hps : path lf = ps at *
      have HPS := hidS hps
      clear hps
      generalize hq : ps.length = q at hmp hpl HH6 ⊢
      have HQ := hidS hq
      clear hq
      go_wp2
      go_loopw [9, 11] (fun wv i wr => ∃ (k2 nw : Nat) (aw : Option Addr) (cw : Nat) (ws : List W4), wv = .slice aw nw cw ∧ i = .int .i64 (k2 : Int) ∧ k2 ≤ q ∧ nw ≤ 2 * k2 ∧ wo.heap.size ≤ wr.heap.size ∧ Hid (ws.length = nw) ∧ Hid (LvV w [(w.heap.size + 1, svb 0 (.slice none 0 0) (.slice none 0 0)), (w.heap.size, svb ep (.slice ax 15 cx) (.slice a m c))] [fI w5.heap.size (.slice ap q cp) ps, fW wo.heap.size (.slice aw nw cw) ws, fS w2.heap.size (.slice a m c) ls] B (.slice ax 15 cx) (raiseL vs (idx (ps.take k2))) wr)) (fun _ i _ => q - (intOf i).toNat)
      case atStart => exact ⟨0, 0, _, _, [], rfl, rfl, Nat.zero_le _, Nat.le_refl _, hs6, rfl, ⟨hl, HH6.out⟩⟩
      case round =>
        obtain ⟨k2, nw, aw, cw, ws, rfl, rfl, hk2, hnw, hswo, HW, HL⟩ := hrel
        by_cases hlt2 : k2 < q
        · obtain ⟨V, HV⟩ : ∃ V, Hid (raiseL vs (idx (ps.take k2)) = V) := ⟨_, rfl⟩
          rw [HV.out] at HL
          have hqk : k2 < ps.length := by have := HQ.out; omega
          have hb15 := HPI.out k2 hqk
          obtain ⟨nd, hnd⟩ : ∃ nd : Nat, ps[k2] = (nd : Int) + 1 := ⟨(ps[k2] - 1).toNat, by omega⟩
          have hnd15 : nd < 15 := by omega
          obtain ⟨gp, hgp⟩ : ∃ gp, ap = some ⟨gp, 0, none⟩ := by
            obtain ⟨_, H⟩ := HL.out
            have hI : Ints _ _ ps wr := H.r0
            rcases hI.form with ⟨_, e'⟩ | ⟨g', cap', e, _⟩
            · rw [e'] at hqk; simp at hqk
            · injection e with e; exact ⟨g', e⟩
          subst hgp
          have SO : Hid (∀ W, LvR w [(w.heap.size + 1, svb 0 (.slice none 0 0) (.slice none 0 0)), (w.heap.size, svb ep (.slice ax 15 cx) (.slice a m c))] [fI w5.heap.size (.slice (some ⟨gp, 0, none⟩) q cp) ps, fW wo.heap.size (.slice aw nw cw) ws, fS w2.heap.size (.slice a m c) ls] B (.slice ax 15 cx) W → _) := fun W h => LvR.cells h gp cp (by rw [HQ.out]) hqk hnd
          obtain ⟨q0, q1, q2, q3, _⟩ := SO.out _ HL.out.weak
          have HL0 : Hid (LvV w [(w.heap.size + 1, svb 0 (.slice none 0 0) (.slice none 0 0)), (w.heap.size, svb ep (.slice ax 15 cx) (.slice a m c))] [fI w5.heap.size (.slice (some ⟨gp, 0, none⟩) q cp) ps, fW wo.heap.size (.slice aw nw cw) ws, fS w2.heap.size (.slice a m c) ls] B (.slice ax 15 cx) V wr.drew) := by
            obtain ⟨h', H⟩ := HL.out
            exact ⟨h', H.drew⟩
          have HND := hidS hnd
          clear hb15 hnd HL
          go_wp2
          go_region_held3 (fun W => W.cell? ⟨w.heap.size, 0, none⟩ = some (.int .i64 ep) ∧ W.cell? ⟨w.heap.size, 1, none⟩ = some (.slice ax 15 cx) ∧ W.cell? ⟨w.heap.size, 2, none⟩ = some (.slice a m c) ∧ W.cell? ⟨gp, k2, none⟩ = some (.int .i64 ((nd : Int) + 1)) ∧ LvR w [(w.heap.size + 1, svb 0 (.slice none 0 0) (.slice none 0 0)), (w.heap.size, svb ep (.slice ax 15 cx) (.slice a m c))] [fI w5.heap.size (.slice (some ⟨gp, 0, none⟩) q cp) ps, fW wo.heap.size (.slice aw nw cw) ws, fS w2.heap.size (.slice a m c) ls] B (.slice ax 15 cx) W)
            (first | exact SO.out _ HL0.out.weak | exact SO.out _ ⟨_, hv7, HM.out⟩ | exact SO.out _ ⟨_, hv7, ((HM.out.s310 _).s311 _).s312 _⟩ | assumption)
            ((go_at_call 85; obtain ⟨hvA, HA⟩ := HL0.out; refine (l3Raise_eq ep a m c nd hnd15 hvA HA.exOn).mono ?_; rintro e w7 ⟨rfl, k7, g7⟩; have hv7 : (V.set nd (wrap64 (vAt V nd + 1))).length = 15 := by { rw [List.length_set]; exact hvA }; have HU := hidS (show raiseL vs (idx (ps.take (k2 + 1))) = V.set nd (wrap64 (vAt V nd + 1)) by { rw [raise_step vs ps k2 nd hqk HND.out, HV.out] }); generalize V.set nd (wrap64 (vAt V nd + 1)) = U at k7 hv7 HU; have HM := hidS (HA.mut (ex' := fI B (.slice ax 15 cx) U) g7 k7 rfl); obtain ⟨⟨o0, o1, o2⟩, f0, f1, f2⟩ := box3 HM.out.b1; have hs7 := g7.size))
          all_goals
            rename_i hHeld
            have HL1 : Hid (LvV w _ _ B (.slice ax 15 cx) U (((w7.setCell ⟨w.heap.size, 0, none⟩ (.int .i64 ep)).setCell ⟨w.heap.size, 1, none⟩ (.slice ax 15 cx)).setCell ⟨w.heap.size, 2, none⟩ (.slice a m c))) := ⟨hv7, ((HM.out.s310 _).s311 _).s312 _⟩
            have hsa : wo.heap.size ≤ (((w7.setCell ⟨w.heap.size, 0, none⟩ (.int .i64 ep)).setCell ⟨w.heap.size, 1, none⟩ (.slice ax 15 cx)).setCell ⟨w.heap.size, 2, none⟩ (.slice a m c)).heap.size := by
              simp only [World.setCell, Array.size_modify]
              exact Nat.le_trans hswo hs7
            clear hHeld HM f0 f1 f2 o0 o1 o2 k7 g7 hs7 HL0 q0 q1 q2 q3 HA
            generalize ((w7.setCell ⟨w.heap.size, 0, none⟩ (.int .i64 ep)).setCell ⟨w.heap.size, 1, none⟩ (.slice ax 15 cx)).setCell ⟨w.heap.size, 2, none⟩ (.slice a m c) = wa at *
            obtain ⟨q0, q1, q2, q3, _⟩ := SO.out _ HL1.out.weak
            have HL2 : Hid (LvV w [(w.heap.size + 1, svb 0 (.slice none 0 0) (.slice none 0 0)), (w.heap.size, svb ep (.slice ax 15 cx) (.slice a m c))] [fI w5.heap.size (.slice (some ⟨gp, 0, none⟩) q cp) ps, fW wo.heap.size (.slice aw nw cw) ws, fS w2.heap.size (.slice a m c) ls] B (.slice ax 15 cx) U wa.drew) := by
              obtain ⟨h', H⟩ := HL1.out
              exact ⟨h', H.drew⟩
            clear HL1
            go_wp2
            go_region_held3 (fun W => W.cell? ⟨w.heap.size, 0, none⟩ = some (.int .i64 ep) ∧ W.cell? ⟨w.heap.size, 1, none⟩ = some (.slice ax 15 cx) ∧ W.cell? ⟨w.heap.size, 2, none⟩ = some (.slice a m c) ∧ W.cell? ⟨gp, k2, none⟩ = some (.int .i64 ((nd : Int) + 1)))
              (first | exact ⟨q0, q1, q2, q3⟩ | exact fourOf (LvR.cells HT.out.weak gp cp (by rw [HQ.out]) hqk HND.out) | assumption)
              ((go_at_call 86; obtain ⟨hvB, HB⟩ := HL2.out; refine (l3Down_any ep ((nd : Int) + 1) (by omega) hvB (show Ints B (.slice ax 15 cx) U _ from HB.exOn) (show Seats w2.heap.size (.slice a m c) ls _ from HB.r2) (show Wraps wo.heap.size (.slice aw nw cw) ws _ from HB.r1) hsa (by rw [HW.out]; omega)).mono ?_; rintro e w8 ⟨v8, ws8, rfl, k8, hl8, g8⟩; rw [HW.out] at hl8; obtain ⟨a8, c8, hv8⟩ := wrapsF k8; subst hv8; have hs8 : wo.heap.size ≤ w8.heap.size := Nat.le_trans hsa g8.size; have HT : Hid (LvV w [(w.heap.size + 1, svb 0 (.slice none 0 0) (.slice none 0 0)), (w.heap.size, svb ep (.slice ax 15 cx) (.slice a m c))] [fI w5.heap.size (.slice (some ⟨gp, 0, none⟩) q cp) ps, fW wo.heap.size (.slice a8 ws8.length c8) ws8, fS w2.heap.size (.slice a m c) ls] B (.slice ax 15 cx) U w8) := ⟨hvB, HB.turn1 (r' := fW wo.heap.size (.slice a8 ws8.length c8) ws8) g8 k8 rfl wrapAlone⟩))
            all_goals
              rename_i hHeld
              clear hHeld HL2 k8 g8 q0 q1 q2 q3 HB
              go_wp2
              go_roundw
              case rel => exact ⟨k2 + 1, ws8.length, a8, c8, ws8, rfl, by go_num, by omega, by omega, hs8, rfl, (by rw [HU.out]; exact HT)⟩
              case measure => simp [intOf] <;> omega
        · have HAll := hidS (show ps.take k2 = ps from List.take_of_length_le (by have := HQ.out; omega))
          rw [HAll.out] at HL
          obtain ⟨hv', HF⟩ := HL.out
          obtain ⟨⟨p0, p1, p2⟩, f0, f1, f2⟩ := box3 HF.b1
          obtain ⟨⟨t0, t1, t2⟩, g0, g1, g2⟩ := box3 HF.b0
          have HE := hidS (((HF.s300 (.int .i64 ep)).s301 (.slice ax 15 cx)).s302 (.slice a m c))
          have hls := HM.out
          have hws := HW.out
          clear HF HL
          go_wp2
          have HE' := HE.out
          generalize ((wr.setCell ⟨w.heap.size + 1, 0, none⟩ (.int .i64 ep)).setCell ⟨w.heap.size + 1, 1, none⟩ (.slice ax 15 cx)).setCell ⟨w.heap.size + 1, 2, none⟩ (.slice a m c) = WF at HE' ⊢
          obtain ⟨⟨z0, z1, z2⟩, _, _, _⟩ := box3 HE'.b0
          have kS : Seats w2.heap.size (.slice a m c) ls WF := HE'.r2
          have kW : Wraps wo.heap.size (.slice aw nw cw) ws WF := HE'.r1
          have kI : Ints B (.slice ax 15 cx) (raiseL vs (idx ps)) WF := HE'.exOn
          exact bodyPost_ret (v := .tuple #[svv ep (.slice ax 15 cx) (.slice a m c), .slice aw nw cw]) (by simp [results, Try.results84, go_sem, z0, z1, z2]) rfl ⟨_, _, ws, rfl, (by rw [HLF.out, HPS.out]; exact kI), (by rw [← HFl2.out]; exact kS.mono hs2), kW.mono hso, by omega, HE'.bel⟩

theorem l3Leave_any {B C : Nat} {x y : Value} {vs : List Int} {ss : List (Int × Int)} {w : World} (ep mem : Int) (hl : vs.length = 15) (hx : Ints B x vs w) (hy : Seats C y ss w) (hs : ss.length ≤ 100) :
    Calls Try.prog 84 #[svv ep x y, .int .i64 mem] w fun e w' => ∃ vs' y' ss' v' ws', e = .returned (.tuple #[svv ep x y', v']) ∧ vs'.length = 15 ∧ Ints B x vs' w' ∧ Seats w.heap.size y' ss' w' ∧ ss'.length ≤ ss.length ∧ Wraps w.heap.size v' ws' w' ∧ ws'.length ≤ 8 ∧ w.grownBy w' x.ownBlock :=
  (l3Leave_eq ep mem hl hx hy hs).mono fun _ _ ⟨y', v', ws', he, hI, hS, hW, h8, hg⟩ => ⟨_, y', _, v', ws', he, by rw [raiseL_len, hl], hI, hS, List.length_filter_le _ _, hW, h8, hg⟩
end Go.Proofs.Ytjilbfohfgalkaa
/- Towards l3Join of the model: the lemmas of its loops. -/
namespace Go.Proofs.Ytjilbfohfgalkaa
open Go.RowKit

/-- A block that a statement has left. -/
theorem Hex.got {w0 W W' : World} {bs : List (Nat × Obj)} {rs : List RowF} {ex : RowF} {p : Nat} {o : Obj} (H : Hex w0 bs rs ex W) (hb : Below W.heap.size W W') (h : W'.heap[p]? = some o) (hp : W.heap.size ≤ p) : Hex w0 ((p, o) :: bs) rs ex W' := by
  have H' := H.since hb
  refine ⟨H'.bel, H'.exOn, H'.low, ?_, ?_, List.pairwise_cons.2 ⟨fun q hq e => ?_, H'.nod⟩, H'.row, H'.fresh, H'.apart, ?_⟩
  · intro q hq
    rcases List.mem_cons.1 hq with rfl | hq
    · exact h
    · exact H'.box q hq
  · intro q hq
    rcases List.mem_cons.1 hq with rfl | hq
    · exact Nat.le_trans H.bel.size hp
    · exact H'.new q hq
  · have := blkLt (H.box q hq)
    dsimp only at e
    omega
  · intro q hq r hr e
    rcases List.mem_cons.1 hq with rfl | hq
    · have := ((H.row r hr).lt _ e).2
      dsimp only at this
      omega
    · exact H'.off q hq r hr e
theorem box2K {R : Nat} {W : World} {u v : Value} {t : TypeId} (h : W.heap[R]? = some (.cells #[u, v] t)) :
    (W.cell? ⟨R, 0, none⟩ = some u ∧ W.cell? ⟨R, 1, none⟩ = some v) ∧ W.frozen? ⟨R, 0, none⟩ = false ∧ W.frozen? ⟨R, 1, none⟩ = false := by
  simp [World.cell?, World.frozen?, h]
theorem box2K_set0 {R : Nat} {W : World} {u v : Value} {t : TypeId} (h : W.heap[R]? = some (.cells #[u, v] t)) (y : Value) : (W.setCell ⟨R, 0, none⟩ y).heap[R]? = some (.cells #[y, v] t) := by
  simp [World.setCell, Array.getElem?_modify, h]
theorem box2K_set1 {R : Nat} {W : World} {u v : Value} {t : TypeId} (h : W.heap[R]? = some (.cells #[u, v] t)) (y : Value) : (W.setCell ⟨R, 1, none⟩ y).heap[R]? = some (.cells #[u, y] t) := by
  simp [World.setCell, Array.getElem?_modify, h]
theorem fiveB {w W : World} {p1 p2 p3 p4 : Addr} {v1 v2 v3 v4 : Value} (h : W.cell? p1 = some v1 ∧ W.cell? p2 = some v2 ∧ W.cell? p3 = some v3 ∧ W.cell? p4 = some v4 ∧ Below w.heap.size w W) : Below w.heap.size w W := h.2.2.2.2
theorem keysKeep {B b o : Nat} {v : Value} {xs : List (Int × Int)} {W : World} (h : Keys B v xs W) (u : Value) (hb : v.ownBlock ≠ some b) : Keys B v xs (W.setCell ⟨b, o, none⟩ u) := h.kept (grown_set W b o u) (fun k e e' => by cases e; exact hb e')
theorem three_since {W W' : World} {p1 p2 p3 : Addr} {v1 v2 v3 : Value} (h : W.cell? p1 = some v1 ∧ W.cell? p2 = some v2 ∧ W.cell? p3 = some v3) (hb : Below W.heap.size W W') : W'.cell? p1 = some v1 ∧ W'.cell? p2 = some v2 ∧ W'.cell? p3 = some v3 := ⟨cell_since h.1 hb, cell_since h.2.1 hb, cell_since h.2.2 hb⟩
theorem three_set {W : World} {p1 p2 p3 : Addr} {v1 v2 v3 : Value} {R : Nat} (h : W.cell? p1 = some v1 ∧ W.cell? p2 = some v2 ∧ W.cell? p3 = some v3) (h1 : p1.block ≠ R) (h2 : p2.block ≠ R) (h3 : p3.block ≠ R) (a b c : Value) :
    (((W.setCell ⟨R, 0, none⟩ a).setCell ⟨R, 1, none⟩ b).setCell ⟨R, 2, none⟩ c).cell? p1 = some v1 ∧ (((W.setCell ⟨R, 0, none⟩ a).setCell ⟨R, 1, none⟩ b).setCell ⟨R, 2, none⟩ c).cell? p2 = some v2 ∧ (((W.setCell ⟨R, 0, none⟩ a).setCell ⟨R, 1, none⟩ b).setCell ⟨R, 2, none⟩ c).cell? p3 = some v3 := by
  have hc : ∀ {p : Addr} {v : Value}, W.cell? p = some v → p.block ≠ R → (((W.setCell ⟨R, 0, none⟩ a).setCell ⟨R, 1, none⟩ b).setCell ⟨R, 2, none⟩ c).cell? p = some v := fun {p v} hp hl =>
    (grown_set _ R 2 c).cell ((grown_set _ R 1 b).cell ((grown_set W R 0 a).cell hp (fun e => by cases e; exact hl rfl)) (fun e => by cases e; exact hl rfl)) (fun e => by cases e; exact hl rfl)
  exact ⟨hc h.1 h1, hc h.2.1 h2, hc h.2.2 h3⟩
/-- The cells that the third loop reads. -/
theorem LvR.cells6 {w W : World} {b0 : Nat × Obj} {s t B D k nd : Nat} {ep k1 k2 : Int} {x y pv : Value} {ps : List Int} {rs : List RowF} (h : LvR w [(t, kb k1 k2), b0, (s, svb ep x y)] (fI D pv ps :: rs) B x W) (gp cp : Nat) (hpv : pv = .slice (some ⟨gp, 0, none⟩) ps.length cp) (hk : k < ps.length) (hnd : ps[k] = (nd : Int) + 1) :
    W.cell? ⟨s, 0, none⟩ = some (.int .i64 ep) ∧ W.cell? ⟨s, 1, none⟩ = some x ∧ W.cell? ⟨s, 2, none⟩ = some y ∧ W.cell? ⟨gp, k, none⟩ = some (.int .i64 ((nd : Int) + 1)) ∧ W.cell? ⟨t, 0, none⟩ = some (.int .i64 k1) ∧ W.cell? ⟨t, 1, none⟩ = some (.int .i64 k2) ∧ LvR w [(t, kb k1 k2), b0, (s, svb ep x y)] (fI D pv ps :: rs) B x W := by
  have h' := h
  obtain ⟨vs', hv', H⟩ := h
  have H2 : LvR w [b0, (s, svb ep x y)] (fI D pv ps :: rs) B x W := ⟨vs', hv', H.dropb0⟩
  obtain ⟨q0, q1, q2, q3, _⟩ := LvR.cells H2 gp cp hpv hk hnd
  have hb := H.b0
  exact ⟨q0, q1, q2, q3, by simp [World.cell?, hb], by simp [World.cell?, hb], h'⟩
theorem six_since {W W' : World} {p1 p2 p3 p4 p5 p6 : Addr} {v1 v2 v3 v4 v5 v6 : Value} (h : W.cell? p1 = some v1 ∧ W.cell? p2 = some v2 ∧ W.cell? p3 = some v3 ∧ W.cell? p4 = some v4 ∧ W.cell? p5 = some v5 ∧ W.cell? p6 = some v6) (hb : Below W.heap.size W W') :
    W'.cell? p1 = some v1 ∧ W'.cell? p2 = some v2 ∧ W'.cell? p3 = some v3 ∧ W'.cell? p4 = some v4 ∧ W'.cell? p5 = some v5 ∧ W'.cell? p6 = some v6 := ⟨cell_since h.1 hb, cell_since h.2.1 hb, cell_since h.2.2.1 hb, cell_since h.2.2.2.1 hb, cell_since h.2.2.2.2.1 hb, cell_since h.2.2.2.2.2 hb⟩
theorem sixOf {a b c d e f g : Prop} (h : a ∧ b ∧ c ∧ d ∧ e ∧ f ∧ g) : a ∧ b ∧ c ∧ d ∧ e ∧ f := ⟨h.1, h.2.1, h.2.2.1, h.2.2.2.1, h.2.2.2.2.1, h.2.2.2.2.2.1⟩
theorem wrapAlone3 {D E F : Nat} {u v y : Value} {ps : List Int} {ws : List W4} {ls : List (Int × Int)} {s t q : Nat} {k1 k2 e1 e2 : Int} {x1 y1 x2 y2 : Value} :
    (∀ r, r ∈ [fI D u ps, fS F y ls] → r.t ≠ (fW E v ws).t) ∧ ∀ p, p ∈ [(q, kb k1 k2), (s, svb e1 x1 y1), (t, svb e2 x2 y2)] → objType p.2 ≠ some (fW E v ws).t := by
  refine ⟨fun r hr => ?_, fun p hp => ?_⟩
  · simp only [List.mem_cons, List.not_mem_nil, or_false] at hr
    rcases hr with rfl | rfl <;> simp
  · simp only [List.mem_cons, List.not_mem_nil, or_false] at hp
    rcases hp with rfl | rfl | rfl <;> simp [objType]
end Go.Proofs.Ytjilbfohfgalkaa
/- l3Join of the model. -/
namespace Go.Proofs.Ytjilbfohfgalkaa
open Go.RowKit

theorem seatsOwn {W : World} {B n : Nat} {v : Value} {xs : List (Int × Int)} (h : Seats B v xs W) (hn : xs.length = n) (o : Obj) : (W.alloc o).ownsRow B 90 2 v n (kcells xs) := by
  subst hn
  exact World.ownsRow.alloc h o
theorem kcells_snoc (ls : List (Int × Int)) (x1 x2 : Int) : kcells ls ++ [Value.int .i64 x1, Value.int .i64 x2] = kcells (ls ++ [(x1, x2)]) := by rw [kcells_append]; rfl
theorem seatCellAt {C g n c k : Nat} {ss : List (Int × Int)} {W : World} (h : Seats C (.slice (some ⟨g, 0, none⟩) n c) ss W) (hk : k < ss.length) : W.cell? ⟨g, k * 2, none⟩ = some (.int .i64 ss[k].1) ∧ W.cell? ⟨g, k * 2 + 1, none⟩ = some (.int .i64 ss[k].2) := by
  obtain ⟨a', c', hv', _, hrow⟩ := h.row
  injection hv' with e1 e2 e3
  subst e1
  rcases hrow with e | ⟨g', e, _, hseg⟩
  · rw [e] at hk; simp at hk
  · cases e
    have := hseg k hk
    simpa only [Nat.zero_add] using this
/-- What l3Join answers of the world: all is in new memory, but for the versions, which are written over. -/
theorem drop_at {ss : List (Int × Int)} {k : Nat} {p : Int × Int} (hk : k < ss.length) (h : ss[k] = p) : ss.drop k = p :: ss.drop (k + 1) := by rw [← h]; exact List.drop_eq_getElem_cons hk
/-- What is still to be written of the seats. -/
def restIn (m l : Int) (db : Bool) (t : List (Int × Int)) : List (Int × Int) := if db = true then t else seatIn m l t
theorem restIn_t {m l : Int} {ss ls : List (Int × Int)} {k : Nat} {p : Int × Int} (hk : k < ss.length) (h : ss[k] = p) (H : seatIn m l ss = ls ++ restIn m l true (ss.drop k)) : seatIn m l ss = (ls ++ [p]) ++ restIn m l true (ss.drop (k + 1)) := by
  rw [H, drop_at hk h]; simp [restIn]
theorem restIn_f {m l : Int} {ss ls : List (Int × Int)} {k : Nat} {p : Int × Int} (hk : k < ss.length) (h : ss[k] = p) (hg : ¬ m < p.1) (H : seatIn m l ss = ls ++ restIn m l false (ss.drop k)) : seatIn m l ss = (ls ++ [p]) ++ restIn m l false (ss.drop (k + 1)) := by
  rw [H, drop_at hk h]; simp [restIn, seatIn, hg]
theorem restIn_g {m l : Int} {ss ls : List (Int × Int)} {k : Nat} {p : Int × Int} (hk : k < ss.length) (h : ss[k] = p) (hg : m < p.1) (H : seatIn m l ss = ls ++ restIn m l false (ss.drop k)) : seatIn m l ss = ((ls ++ [(m, l)]) ++ [p]) ++ restIn m l true (ss.drop (k + 1)) := by
  rw [H, drop_at hk h]; simp [restIn, seatIn, hg]
theorem restIn_et {m l : Int} {ss ls : List (Int × Int)} {k : Nat} (hk : ss.length ≤ k) (H : seatIn m l ss = ls ++ restIn m l true (ss.drop k)) : seatIn m l ss = ls := by
  rw [H, List.drop_eq_nil_of_le hk]; simp [restIn]
theorem restIn_ef {m l : Int} {ss ls : List (Int × Int)} {k : Nat} (hk : ss.length ≤ k) (H : seatIn m l ss = ls ++ restIn m l false (ss.drop k)) : seatIn m l ss = ls ++ [(m, l)] := by
  rw [H, List.drop_eq_nil_of_le hk]; simp [restIn, seatIn]
/-- What l3Join answers, and what the seats and the versions are. -/
def JnEq (w : World) (B : Nat) (ep mem : Int) (x y : Value) (vs : List Int) (ss : List (Int × Int)) (e : Ending) (w' : World) : Prop :=
  (e = .returned (.tuple #[svv ep x y, .slice none 0 0, .slice none 0 0, .int .i64 5]) ∧ Below w.heap.size w w') ∨
  ∃ (j : Nat) (y' v' : Value) (ws' : List W4) (u' : Value) (ks' : List (Int × Int)), j < 8 ∧ someB ss (8 + (j : Int)) = false ∧ e = .returned (.tuple #[svv ep x y', v', u', .int .i64 0]) ∧ Ints B x (raiseL vs (idx (path (8 + (j : Int))))) w' ∧ Seats w.heap.size y' (seatIn mem (8 + (j : Int)) ss) w' ∧ Wraps w.heap.size v' ws' w' ∧ ws'.length ≤ 8 ∧ Keys w.heap.size u' ks' w' ∧ ks'.length ≤ 4 ∧ w.grownBy w' x.ownBlock
def JnIs (w : World) (B C : Nat) (ep : Int) (x y : Value) (ss : List (Int × Int)) (e : Ending) (w' : World) : Prop :=
  (e = .returned (.tuple #[svv ep x y, .slice none 0 0, .slice none 0 0, .int .i64 5]) ∧ Below w.heap.size w w') ∨
  ∃ vs' y' ss' v' ws' u' ks', e = .returned (.tuple #[svv ep x y', v', u', .int .i64 0]) ∧ vs'.length = 15 ∧ Ints B x vs' w' ∧ Seats w.heap.size y' ss' w' ∧ ss'.length ≤ ss.length + 1 ∧ Wraps w.heap.size v' ws' w' ∧ ws'.length ≤ 8 ∧ Keys w.heap.size u' ks' w' ∧ ks'.length ≤ 4 ∧ w.grownBy w' x.ownBlock ∧ C = C

set_option maxRecDepth 100000 in
set_option maxHeartbeats 8000000 in
theorem l3Join_eq {B C : Nat} {x y : Value} {vs : List Int} {ss : List (Int × Int)} {w : World} (ep mem : Int) (hl : vs.length = 15) (hx : Ints B x vs w) (hy : Seats C y ss w) (hs : ss.length ≤ 100) :
    Calls Try.prog 83 #[svv ep x y, .int .i64 mem] w fun e w' => JnEq w B ep mem x y vs ss e w' := by
  obtain ⟨iS, hiS, hS0, hS1, hS2⟩ := info_parts infoS2
  obtain ⟨iW, hiW, hW0, hW1, hW2⟩ := info_parts infoW4
  obtain ⟨ax, cx, hvx, _, _⟩ := hx.row
  obtain ⟨ay, cy, hvy, hmy, _⟩ := hy.row
  subst hvx hvy
  unfold maxLen at hmy
  rw [hl] at hx ⊢
  have HY : Hid (∀ W, w.grownBy W (Value.slice ax 15 cx).ownBlock → Seats C (.slice ay ss.length cy) ss W) := fun W hg => hy.kept hg (ne_is hx hy)
  have H1 := ((Hex.start w (ex := fI B (.slice ax 15 cx) vs) (show (fI B (.slice ax 15 cx) vs).on w from hx)).alloc (svb ep (.slice ax 15 cx) (.slice ay ss.length cy))).alloc (svb 0 (.slice none 0 0) (.slice none 0 0))
  simp only [World.size_alloc] at H1
  have HH1 := hidS H1
  have hB1 := two_below w (svb ep (.slice ax 15 cx) (.slice ay ss.length cy)) (svb 0 (.slice none 0 0) (.slice none 0 0))
  have HB1 := hidS hB1
  have hn0 : ss.length ≤ 100 := hs
  clear hx hy H1 hs hB1
  generalize hn : ss.length = n at *
  have HN := hidS hn
  go_enter Try.func83, Try.ntmps83
  go_wp2
  generalize (w.alloc (svb ep (.slice ax 15 cx) (.slice ay n cy))).alloc (svb 0 (.slice none 0 0) (.slice none 0 0)) = w1 at *
  go_loopw [8] (fun i wr => ∃ j : Nat, j ≤ 8 ∧ i = .int .i64 (8 + (j : Int)) ∧ Hid (Below w1.heap.size w1 wr)) (fun i _ => 16 - (intOf i).toNat)
  case atStart => exact ⟨0, by omega, rfl, Below.refl _ _⟩
  case round =>
    obtain ⟨j, hj, rfl, HB⟩ := hrel
    have HH := hidS (HH1.out.since HB.out)
    obtain ⟨⟨p0, p1, p2⟩, _, _, _⟩ := box3 HH.out.b1
    by_cases hj8 : j < 8
    case neg =>
      have hj' : j = 8 := by omega
      subst hj'
      obtain ⟨⟨t0, t1, t2⟩, g0, g1, g2⟩ := box3 HH.out.b0
      have HE := hidS (((HH.out.s300 (.int .i64 ep)).s301 (.slice ax 15 cx)).s302 (.slice ay n cy))
      have HBe := hidS (show Below w.heap.size w (((wr.setCell ⟨w.heap.size + 1, 0, none⟩ (.int .i64 ep)).setCell ⟨w.heap.size + 1, 1, none⟩ (.slice ax 15 cx)).setCell ⟨w.heap.size + 1, 2, none⟩ (.slice ay n cy)) from (((more HB1.out HB.out).setCell (by simp) _).setCell (by simp) _).setCell (by simp) _)
      clear HH HB HH1
      go_wp2
      have HE' := HE.out
      have HBe' := HBe.out
      generalize ((wr.setCell ⟨w.heap.size + 1, 0, none⟩ (.int .i64 ep)).setCell ⟨w.heap.size + 1, 1, none⟩ (.slice ax 15 cx)).setCell ⟨w.heap.size + 1, 2, none⟩ (.slice ay n cy) = WF at HE' HBe' ⊢
      obtain ⟨⟨z0, z1, z2⟩, _, _, _⟩ := box3 HE'.b0
      exact bodyPost_ret (v := .tuple #[svv ep (.slice ax 15 cx) (.slice ay n cy), .slice none 0 0, .slice none 0 0, .int .i64 5]) (by simp [results, Try.results83, go_sem, z0, z1, z2]) rfl (.inl ⟨rfl, HBe'⟩)
    case pos =>
    have hj16 : (8 : Int) + (j : Int) ≤ 15 := by omega
    go_wp2_with fail
    refine (l3Some_eq ep _ (HY.out _ HH.out.bel)).mono ?_
    rintro e w2 ⟨rfl, b2⟩
    obtain ⟨sb, HSB⟩ : ∃ sb, Hid (someB ss (8 + (j : Int)) = sb) := ⟨_, rfl⟩
    rw [HSB.out]
    have HB2 := hidS (more HB.out b2)
    have HH2 := hidS (HH.out.since b2)
    have p0 := cell_since p0 b2
    have p1 := cell_since p1 b2
    have p2 := cell_since p2 b2
    have hs2 : w.heap.size ≤ w2.heap.size := HH2.out.bel.size
    clear b2 HH HB
    cases sb with
    | true =>
      go_wp2
      go_roundw
      case rel => exact ⟨j + 1, by omega, by go_num, HB2⟩
      case measure => simp [intOf] <;> omega
    | false =>
      have HH3 := hidS (HH2.out.add (one_below w2 (.cells #[] 90)) (r := fS w2.heap.size (.slice (some ⟨w2.heap.size, 0, none⟩) 0 0) []) (litS w2 (Nat.le_refl _)) (Nat.le_refl _))
      have hs3 : w2.heap.size ≤ (w2.alloc (.cells #[] 90)).heap.size := by simp
      clear HB2 HH2 HH1 HB1
      go_wp2
      generalize w2.alloc (.cells #[] 90) = w3 at *
      clear p0 p1 p2
      rename World => wq
      go_loopw [9, 10, 11] (fun lv dv i wr => ∃ (k m : Nat) (a : Option Addr) (c : Nat) (ls : List (Int × Int)) (db : Bool), lv = .slice a m c ∧ dv = .bool db ∧ i = .int .i64 (k : Int) ∧ k ≤ n ∧ m ≤ k + 1 ∧ (db = false → m ≤ k) ∧ w2.heap.size ≤ wr.heap.size ∧ Hid (ls.length = m) ∧ Hid (seatIn mem (8 + (j : Int)) ss = ls ++ restIn mem (8 + (j : Int)) db (ss.drop k)) ∧ Hid (Hex w [(w.heap.size + 1, svb 0 (.slice none 0 0) (.slice none 0 0)), (w.heap.size, svb ep (.slice ax 15 cx) (.slice ay n cy))] [fS w2.heap.size (.slice a m c) ls] (fI B (.slice ax 15 cx) vs) wr)) (fun _ _ i _ => n - (intOf i).toNat)
      case atStart => exact ⟨0, 0, _, _, [], false, rfl, rfl, rfl, by omega, by omega, fun _ => by omega, hs3, rfl, (by show _ = _; simp [restIn]), HH3⟩
      case round =>
        obtain ⟨k, m, a, c, ls, db, rfl, rfl, rfl, hk, hmk, hdb, hsw, HM, HR, HH⟩ := hrel
        obtain ⟨⟨p0, p1, p2⟩, fr0, fr1, fr2⟩ := box3 HH.out.b1
        by_cases hlt : k < n
        · obtain ⟨g, ha, hg, hseg⟩ : ∃ g, ay = some ⟨g, 0, none⟩ ∧ g < wr.heap.size ∧ KSeg g 0 ss wr := by
            obtain ⟨a', c', hv', _, hrow⟩ := (HY.out _ HH.out.bel).row
            injection hv' with e1 e2 e3
            subst e1
            rcases hrow with e | e
            · have := HN.out; rw [e] at this; simp at this; omega
            · exact e
          subst ha
          have hlk : k < ss.length := by have := HN.out; omega
          obtain ⟨a1, a2⟩ := hseg k hlk
          simp only [Nat.zero_add] at a1 a2
          obtain ⟨x1, x2, hsk⟩ : ∃ x1 x2, ss[k] = (x1, x2) := ⟨_, _, rfl⟩
          rw [hsk] at a1 a2
          dsimp only at a1 a2
          have HSk := hidS hsk
          clear hsk
          have tokA : True := trivial
          have tokB : True := trivial
          cases db with
          | true =>
            clear hseg
            go_wp2_with (at_builtin; have _t := tokA; clear _t tokA; refine wpList_append_own _ rfl _ _ 41 rfl w2.heap.size 90 iS (.agg #[.int .i64 0, .int .i64 0]) 2 16 Try.underlying41 hiS hS0 hS1 hS2 rfl (by decide) _ _ _ rfl (seatsOwn (show Seats w2.heap.size (.slice a m c) ls wr from HH.out.r0) HM.out _) ⟨wr.heap.size, 0, none⟩ 1 1 [.int .i64 x1, .int .i64 x2] rfl rfl (seatCell2 _ _ _ _ rfl) (by simp [Value.oneCell']) (by unfold maxLen; omega) (by omega) (by simp <;> omega) ?_; intro v' w8 hown' hgrow _; obtain ⟨a8, c8, hv', hI'⟩ := seatRow2 (xs := ls ++ [(x1, x2)]) hown' (kcells_snoc _ _ _) (by rw [List.length_append, HM.out]; rfl); subst hv'; have HM8 : Hid ((ls ++ [(x1, x2)]).length = m + 1) := (by show _ = _; rw [List.length_append, HM.out]; rfl); have HH8 := hidS (HH.out.seat (fun e => by simp [objType] at e) (fun e => by simp [objType] at e) hgrow hI'); have hs8 : w2.heap.size ≤ w8.heap.size := Nat.le_trans (by assumption) (Nat.le_trans (by simp) hgrow.size); clear hown' hI' hgrow)
            go_roundw
            case rel => exact ⟨k + 1, m + 1, a8, c8, _, true, by go_num, rfl, by go_num, by omega, by omega, (fun h => by cases h), hs8, HM8, restIn_t hlk HSk.out HR.out, HH8⟩
            case measure => simp [intOf] <;> omega
          | false =>
            have hmk' := hdb rfl
            by_cases hgt : mem < x1
            · have HSg := hidS (HY.out)
              clear hseg
              go_wp2_with (first | ((at_builtin; have _t := tokA; clear _t tokA; refine wpList_append_own _ rfl _ _ 41 rfl w2.heap.size 90 iS (.agg #[.int .i64 0, .int .i64 0]) 2 16 Try.underlying41 hiS hS0 hS1 hS2 rfl (by decide) _ _ _ rfl (seatsOwn (show Seats w2.heap.size (.slice a m c) ls wr from HH.out.r0) HM.out _) ⟨wr.heap.size, 0, none⟩ 1 1 [.int .i64 mem, .int .i64 (8 + (j : Int))] rfl rfl (seatCell2 _ _ _ _ rfl) (by simp [Value.oneCell']) (by unfold maxLen; omega) (by omega) (by simp <;> omega) ?_; intro v' w8 hown' hgrow _; obtain ⟨a8, c8, hv', hI'⟩ := seatRow2 (xs := ls ++ [(mem, (8 + (j : Int)))]) hown' (kcells_snoc _ _ _) (by rw [List.length_append, HM.out]; rfl); subst hv'; have HM8 : Hid ((ls ++ [(mem, (8 + (j : Int)))]).length = m + 1) := (by show _ = _; rw [List.length_append, HM.out]; rfl); have HH8 := hidS (HH.out.seat (fun e => by simp [objType] at e) (fun e => by simp [objType] at e) hgrow hI'); have hs8 : w2.heap.size ≤ w8.heap.size := Nat.le_trans (by assumption) (Nat.le_trans (by simp) hgrow.size); clear hown' hI' hgrow; obtain ⟨⟨s0, s1, s2⟩, _, _, _⟩ := box3 HH8.out.b1; obtain ⟨b1, b2⟩ := seatCellAt (HY.out _ HH8.out.bel) hlk; rw [HSk.out] at b1 b2)) | (at_builtin; have _t := tokB; clear _t tokB; refine wpList_append_own _ rfl _ _ 41 rfl w2.heap.size 90 iS (.agg #[.int .i64 0, .int .i64 0]) 2 16 Try.underlying41 hiS hS0 hS1 hS2 rfl (by decide) _ _ _ rfl (seatsOwn (show Seats w2.heap.size (.slice a8 (m + 1) c8) (ls ++ [(mem, 8 + (j : Int))]) w8 from HH8.out.r0) HM8.out _) ⟨w8.heap.size, 0, none⟩ 1 1 [.int .i64 x1, .int .i64 x2] rfl rfl (seatCell2 _ _ _ _ rfl) (by simp [Value.oneCell']) (by unfold maxLen; omega) (by omega) (by simp <;> omega) ?_; intro v' w9 hown' hgrow _; obtain ⟨a9, c9, hv', hI'⟩ := seatRow2 (xs := (ls ++ [(mem, 8 + (j : Int))]) ++ [(x1, x2)]) hown' (kcells_snoc _ _ _) (by rw [List.length_append, HM8.out]; rfl); subst hv'; have HM9 : Hid (((ls ++ [(mem, 8 + (j : Int))]) ++ [(x1, x2)]).length = (m + 1) + 1) := (by show _ = _; rw [List.length_append, HM8.out]; rfl); have HH9 := hidS (HH8.out.seat (fun e => by simp [objType] at e) (fun e => by simp [objType] at e) hgrow hI'); have hs9 : w2.heap.size ≤ w9.heap.size := Nat.le_trans (by assumption) (Nat.le_trans (by simp) hgrow.size); clear hown' hI' hgrow))
              go_roundw
              case rel => exact ⟨k + 1, m + 1 + 1, a9, c9, _, true, by go_num, rfl, by go_num, by omega, by omega, (fun h => by cases h), hs9, HM9, restIn_g hlk HSk.out hgt HR.out, HH9⟩
              case measure => simp [intOf] <;> omega
            · clear hseg
              go_wp2_with (at_builtin; have _t := tokA; clear _t tokA; refine wpList_append_own _ rfl _ _ 41 rfl w2.heap.size 90 iS (.agg #[.int .i64 0, .int .i64 0]) 2 16 Try.underlying41 hiS hS0 hS1 hS2 rfl (by decide) _ _ _ rfl (seatsOwn (show Seats w2.heap.size (.slice a m c) ls wr from HH.out.r0) HM.out _) ⟨wr.heap.size, 0, none⟩ 1 1 [.int .i64 x1, .int .i64 x2] rfl rfl (seatCell2 _ _ _ _ rfl) (by simp [Value.oneCell']) (by unfold maxLen; omega) (by omega) (by simp <;> omega) ?_; intro v' w8 hown' hgrow _; obtain ⟨a8, c8, hv', hI'⟩ := seatRow2 (xs := ls ++ [(x1, x2)]) hown' (kcells_snoc _ _ _) (by rw [List.length_append, HM.out]; rfl); subst hv'; have HM8 : Hid ((ls ++ [(x1, x2)]).length = m + 1) := (by show _ = _; rw [List.length_append, HM.out]; rfl); have HH8 := hidS (HH.out.seat (fun e => by simp [objType] at e) (fun e => by simp [objType] at e) hgrow hI'); have hs8 : w2.heap.size ≤ w8.heap.size := Nat.le_trans (by assumption) (Nat.le_trans (by simp) hgrow.size); clear hown' hI' hgrow)
              go_roundw
              case rel => exact ⟨k + 1, m + 1, a8, c8, _, false, by go_num, rfl, by go_num, by omega, by omega, (fun _ => by omega), hs8, HM8, restIn_f hlk HSk.out hgt HR.out, HH8⟩
              case measure => simp [intOf] <;> omega
        · cases db with
          | true =>
            rename World => wo
            have HSI := hidS (restIn_et (by have := HN.out; omega) HR.out)
            clear HR
            clear p0 p1 p2
            obtain ⟨⟨p0, p1, p2⟩, fr0, fr1, fr2⟩ := box3 HH.out.b1
            go_wp2_with fail
            have HH5 := hidS ((HH.out.s312 (.slice a m c)).add (one_below _ (.cells #[] 112)) (r := fW wo.heap.size (.slice (some ⟨wo.heap.size, 0, none⟩) 0 0) []) (litWs wo _ _) (by simp [World.setCell]))
            have hso : w.heap.size ≤ wo.heap.size := Nat.le_trans hs2 (by assumption)
            have hs5 : wo.heap.size ≤ ((wo.setCell ⟨w.heap.size, 2, none⟩ (.slice a m c)).alloc (.cells #[] 112)).heap.size := by simp [World.setCell]
            have hls := HM.out
            generalize (wo.setCell ⟨w.heap.size, 2, none⟩ (.slice a m c)).alloc (.cells #[] 112) = w5 at *
            refine (specPathOf_any (8 + (j : Int)) _).mono ?_
            rintro e w6 ⟨pv, rfl, hP, b6⟩
            obtain ⟨ap, cp, hvp, hmp, _⟩ := hP.row
            subst hvp
            have hpl := path_len (8 + (j : Int))
            have HPI := hidS (path_in (8 + (j : Int)))
            have HH6 := hidS (HH5.out.add b6 (r := fI w5.heap.size (.slice ap (path (8 + (j : Int))).length cp) (path (8 + (j : Int)))) hP (Nat.le_refl _))
            have hs6 : wo.heap.size ≤ w6.heap.size := Nat.le_trans hs5 b6.size
            clear hP b6 HH5 HH HH3
            generalize hps : path (8 + (j : Int)) = ps at *
            have HPS := hidS hps
            clear hps
            generalize hq : ps.length = q at hmp hpl HH6 ⊢
            have HQ := hidS hq
            clear hq
            have HLS := hidS hls
            clear hls
            go_wp2
            go_loopw [12, 14] (fun wv i wr => ∃ (k2 nw : Nat) (aw : Option Addr) (cw : Nat) (ws : List W4), wv = .slice aw nw cw ∧ i = .int .i64 (k2 : Int) ∧ k2 ≤ q ∧ nw ≤ k2 ∧ wo.heap.size ≤ wr.heap.size ∧ Hid (ws.length = nw) ∧ Hid (LvV w [(w.heap.size + 1, svb 0 (.slice none 0 0) (.slice none 0 0)), (w.heap.size, svb ep (.slice ax 15 cx) (.slice a m c))] [fI w5.heap.size (.slice ap q cp) ps, fW wo.heap.size (.slice aw nw cw) ws, fS w2.heap.size (.slice a m c) ls] B (.slice ax 15 cx) (raiseL vs (idx (ps.take k2))) wr)) (fun _ i _ => q - (intOf i).toNat)
            case atStart => exact ⟨0, 0, _, _, [], rfl, rfl, Nat.zero_le _, Nat.le_refl _, hs6, rfl, ⟨hl, HH6.out⟩⟩
            case round =>
              obtain ⟨k2, nw, aw, cw, ws, rfl, rfl, hk2, hnw, hswo, HW, HL⟩ := hrel
              by_cases hlt2 : k2 < q
              · obtain ⟨vsA, HV⟩ : ∃ V, Hid (raiseL vs (idx (ps.take k2)) = V) := ⟨_, rfl⟩
                rw [HV.out] at HL
                have hqk : k2 < ps.length := by have := HQ.out; omega
                have hb15 := HPI.out k2 hqk
                obtain ⟨nd, hnd⟩ : ∃ nd : Nat, ps[k2] = (nd : Int) + 1 := ⟨(ps[k2] - 1).toNat, by omega⟩
                have hnd15 : nd < 15 := by omega
                obtain ⟨gp, hgp⟩ : ∃ gp, ap = some ⟨gp, 0, none⟩ := by
                  obtain ⟨_, H⟩ := HL.out
                  have hI : Ints _ _ ps wr := H.r0
                  rcases hI.form with ⟨_, e'⟩ | ⟨g', cap', e, _⟩
                  · rw [e'] at hqk; simp at hqk
                  · injection e with e; exact ⟨g', e⟩
                subst hgp
                obtain ⟨q0, q1, q2, q3, _⟩ := LvR.cells HL.out.weak gp cp (by rw [HQ.out]) hqk hnd
                obtain ⟨hvA, HA'⟩ := HL.out
                have HU0 := hidS (show raiseL vs (idx (ps.take (k2 + 1))) = vsA.set nd (wrap64 (vAt vsA nd + 1)) by rw [raise_step vs ps k2 nd hqk hnd, HV.out])
                have HA := hidS HA'
                have KI := hidS (show Ints B (.slice ax 15 cx) vsA wr from HA'.exOn)
                have HND := hidS hnd
                clear hb15 hnd HL HA'
                have HS : Hid (∀ W, Below wr.heap.size wr W → (W.cell? ⟨w.heap.size, 0, none⟩ = some (.int .i64 ep) ∧ W.cell? ⟨w.heap.size, 1, none⟩ = some (.slice ax 15 cx) ∧ W.cell? ⟨w.heap.size, 2, none⟩ = some (.slice a m c) ∧ W.cell? ⟨gp, k2, none⟩ = some (.int .i64 ((nd : Int) + 1)) ∧ Below wr.heap.size wr W)) := fun W h => ⟨cell_since q0 h, cell_since q1 h, cell_since q2 h, cell_since q3 h, h⟩
                have oD : Hid ((wr.alloc (kb 0 0)).drew.heap[wr.heap.size]? = some (kb 0 0)) := heap_alloc_new _ _
                obtain ⟨zo, hzo⟩ : ∃ zo, vAt vsA nd = zo := ⟨_, rfl⟩
                go_wp2
                go_region_held3 (fun W => W.cell? ⟨w.heap.size, 0, none⟩ = some (.int .i64 ep) ∧ W.cell? ⟨w.heap.size, 1, none⟩ = some (.slice ax 15 cx) ∧ W.cell? ⟨w.heap.size, 2, none⟩ = some (.slice a m c) ∧ W.cell? ⟨gp, k2, none⟩ = some (.int .i64 ((nd : Int) + 1)) ∧ Below wr.heap.size wr W)
                  (first | exact HS.out _ (Below.refl _ _).drew | exact HS.out _ (more (fiveB ‹_›) b7) | exact HS.out _ (more (fiveB ‹_›) (one_below _ _)) | exact HS.out _ (more bel (one_below _ _)) | exact HS.out _ (((fiveB ‹_›).setCell (by simp <;> omega) _).setCell (by simp <;> omega) _))
                  ((go_at_call 59; refine (l3Key_any ep nd hnd15 hvA (KI.out.since (fiveB ‹_›))).mono ?_; rw [hzo]; rintro e w7 ⟨rfl, b7⟩; have bel := more (fiveB ‹_›) b7; have z7 := bel.size; (first | (have oA := blkSince oD.out b7; obtain ⟨⟨o0, o1⟩, f0, f1⟩ := box2K oA) | skip)))
                all_goals
                  rename_i hHeld
                  have hbW := fiveB hHeld
                  clear hHeld
                  first
                    | (have oK := box2K_set1 (box2K_set0 oA (.int .i64 ((nd : Int) + 1))) (.int .i64 zo)
                       have HG := hidS (HA.out.got hbW oK (Nat.le_refl _))
                       have hsg := Nat.le_trans hswo hbW.size
                       clear oA oK hbW o0 o1 f0 f1
                       clear bel z7 b7 HS oD q0 q1 q2 q3 KI HA
                       generalize ((w7.setCell ⟨wr.heap.size, 0, none⟩ (.int .i64 ((nd : Int) + 1))).setCell ⟨wr.heap.size, 1, none⟩ (.int .i64 zo)) = wg at *
                       generalize wr.heap.size = pk at *)
                    | (have oK := heap_alloc_new w7 (kb ((nd : Int) + 1) zo)
                       have HG := hidS (HA.out.got hbW oK z7)
                       have hsg := Nat.le_trans hswo hbW.size
                       clear oK hbW
                       clear bel z7 b7 HS oD q0 q1 q2 q3 KI HA
                       generalize (w7.alloc (kb ((nd : Int) + 1) zo)) = wg at *
                       generalize w7.heap.size = pk at *)
                  have HL0 : Hid (LvV w [(pk, kb ((nd : Int) + 1) zo), (w.heap.size + 1, svb 0 (.slice none 0 0) (.slice none 0 0)), (w.heap.size, svb ep (.slice ax 15 cx) (.slice a m c))] [fI w5.heap.size (.slice (some ⟨gp, 0, none⟩) q cp) ps, fW wo.heap.size (.slice aw nw cw) ws, fS w2.heap.size (.slice a m c) ls] B (.slice ax 15 cx) vsA wg.drew) := ⟨hvA, HG.out.drew⟩
                  have SO : Hid (∀ W, LvR w [(pk, kb ((nd : Int) + 1) zo), (w.heap.size + 1, svb 0 (.slice none 0 0) (.slice none 0 0)), (w.heap.size, svb ep (.slice ax 15 cx) (.slice a m c))] [fI w5.heap.size (.slice (some ⟨gp, 0, none⟩) q cp) ps, fW wo.heap.size (.slice aw nw cw) ws, fS w2.heap.size (.slice a m c) ls] B (.slice ax 15 cx) W → (W.cell? ⟨w.heap.size, 0, none⟩ = some (.int .i64 ep) ∧ W.cell? ⟨w.heap.size, 1, none⟩ = some (.slice ax 15 cx) ∧ W.cell? ⟨w.heap.size, 2, none⟩ = some (.slice a m c) ∧ W.cell? ⟨gp, k2, none⟩ = some (.int .i64 ((nd : Int) + 1)) ∧ W.cell? ⟨pk, 0, none⟩ = some (.int .i64 ((nd : Int) + 1)) ∧ W.cell? ⟨pk, 1, none⟩ = some (.int .i64 zo) ∧ LvR w [(pk, kb ((nd : Int) + 1) zo), (w.heap.size + 1, svb 0 (.slice none 0 0) (.slice none 0 0)), (w.heap.size, svb ep (.slice ax 15 cx) (.slice a m c))] [fI w5.heap.size (.slice (some ⟨gp, 0, none⟩) q cp) ps, fW wo.heap.size (.slice aw nw cw) ws, fS w2.heap.size (.slice a m c) ls] B (.slice ax 15 cx) W)) := fun W h => LvR.cells6 h gp cp (by rw [HQ.out]) hqk HND.out
                  obtain ⟨q0, q1, q2, q3, q4, q5, _⟩ := SO.out _ ⟨vsA, hvA, HG.out⟩
                  clear HG hzo hvA
                  obtain ⟨U, HUz⟩ : ∃ U, Hid (vsA.set nd (wrap64 (vAt vsA nd + 1)) = U) := ⟨_, rfl⟩
                  have HU := hidS (show raiseL vs (idx (ps.take (k2 + 1))) = U by rw [HU0.out, HUz.out])
                  go_wp2
                  go_region_held3 (fun W => W.cell? ⟨w.heap.size, 0, none⟩ = some (.int .i64 ep) ∧ W.cell? ⟨w.heap.size, 1, none⟩ = some (.slice ax 15 cx) ∧ W.cell? ⟨w.heap.size, 2, none⟩ = some (.slice a m c) ∧ W.cell? ⟨gp, k2, none⟩ = some (.int .i64 ((nd : Int) + 1)) ∧ W.cell? ⟨pk, 0, none⟩ = some (.int .i64 ((nd : Int) + 1)) ∧ W.cell? ⟨pk, 1, none⟩ = some (.int .i64 zo) ∧ LvR w [(pk, kb ((nd : Int) + 1) zo), (w.heap.size + 1, svb 0 (.slice none 0 0) (.slice none 0 0)), (w.heap.size, svb ep (.slice ax 15 cx) (.slice a m c))] [fI w5.heap.size (.slice (some ⟨gp, 0, none⟩) q cp) ps, fW wo.heap.size (.slice aw nw cw) ws, fS w2.heap.size (.slice a m c) ls] B (.slice ax 15 cx) W)
                    (first | exact SO.out _ HL0.out.weak | exact SO.out _ ⟨_, hv9, HMx.out⟩ | exact SO.out _ ⟨_, hv9, ((HMx.out.s320 _).s321 _).s322 _⟩ | assumption)
                    ((go_at_call 85; obtain ⟨hvB, HB⟩ := HL0.out; refine (l3Raise_eq ep a m c nd hnd15 hvB HB.exOn).mono ?_; rintro e w9 ⟨rfl, k9, g9⟩; rw [HUz.out] at k9; have hv9 : U.length = 15 := by { rw [← HUz.out, List.length_set]; exact hvB }; have HMx := hidS (HB.mut (ex' := fI B (.slice ax 15 cx) U) g9 k9 rfl); obtain ⟨⟨o0, o1, o2⟩, f0, f1, f2⟩ := box3 HMx.out.b2; have hs9 := g9.size))
                  all_goals
                    rename_i hHeld
                    have HL1 : Hid (LvV w [(pk, kb ((nd : Int) + 1) zo), (w.heap.size + 1, svb 0 (.slice none 0 0) (.slice none 0 0)), (w.heap.size, svb ep (.slice ax 15 cx) (.slice a m c))] [fI w5.heap.size (.slice (some ⟨gp, 0, none⟩) q cp) ps, fW wo.heap.size (.slice aw nw cw) ws, fS w2.heap.size (.slice a m c) ls] B (.slice ax 15 cx) U (((w9.setCell ⟨w.heap.size, 0, none⟩ (.int .i64 ep)).setCell ⟨w.heap.size, 1, none⟩ (.slice ax 15 cx)).setCell ⟨w.heap.size, 2, none⟩ (.slice a m c))) := ⟨hv9, ((HMx.out.s320 _).s321 _).s322 _⟩
                    have hsa : wo.heap.size ≤ (((w9.setCell ⟨w.heap.size, 0, none⟩ (.int .i64 ep)).setCell ⟨w.heap.size, 1, none⟩ (.slice ax 15 cx)).setCell ⟨w.heap.size, 2, none⟩ (.slice a m c)).heap.size := by
                      simp only [World.setCell, Array.size_modify]
                      exact Nat.le_trans hsg hs9
                    clear hHeld HMx f0 f1 f2 o0 o1 o2 k9 g9 hs9 HL0 q0 q1 q2 q3 q4 q5 HB hv9
                    generalize (((w9.setCell ⟨w.heap.size, 0, none⟩ (.int .i64 ep)).setCell ⟨w.heap.size, 1, none⟩ (.slice ax 15 cx)).setCell ⟨w.heap.size, 2, none⟩ (.slice a m c)) = wa at *
                    by_cases hk0 : (0 : Int) < (k2 : Int)
                    · obtain ⟨q0, q1, q2, q3, q4, q5, _⟩ := SO.out _ HL1.out.weak
                      obtain ⟨hvC, HC'⟩ := HL1.out
                      have HC := hidS HC'.drew
                      have KI2 := hidS (show Ints B (.slice ax 15 cx) U wa.drew from HC'.drew.exOn)
                      have KW := hidS (show Wraps wo.heap.size (.slice aw nw cw) ws wa.drew from HC'.drew.r1)
                      obtain ⟨zn, hzn⟩ : ∃ zn, vAt U nd = zn := ⟨_, rfl⟩
                      clear HC' HL1
                      go_wp2
                      go_region_held3 (fun W => W.cell? ⟨w.heap.size, 0, none⟩ = some (.int .i64 ep) ∧ W.cell? ⟨w.heap.size, 1, none⟩ = some (.slice ax 15 cx) ∧ W.cell? ⟨w.heap.size, 2, none⟩ = some (.slice a m c) ∧ W.cell? ⟨gp, k2, none⟩ = some (.int .i64 ((nd : Int) + 1)) ∧ W.cell? ⟨pk, 0, none⟩ = some (.int .i64 ((nd : Int) + 1)) ∧ W.cell? ⟨pk, 1, none⟩ = some (.int .i64 zo))
                        (first | exact ⟨q0, q1, q2, q3, q4, q5⟩ | exact six_since ‹_› b11 | exact six_since ‹_› (one_below _ _) | exact sixOf (LvR.cells6 HT.out.weak gp cp (by rw [HQ.out]) hqk HND.out) | assumption)
                        (first
                          | (go_at_call 59; refine (l3Key_any ep nd hnd15 hvC KI2.out).mono ?_; rw [hzn]; rintro e w11 ⟨rfl, b11⟩; have hs11 : wo.heap.size ≤ w11.heap.size := Nat.le_trans hsa b11.size)
                          | (refine step_append_k _ (by rfl) _ _ _ (by rfl) wo.heap.size 112 iW (.agg #[.int .i64 0, .int .i64 0, .int .i64 0, .int .i64 0]) 4 32 Try.underlying27 hiW hW0 hW1 hW2 rfl (by omega) (.slice aw nw cw) nw _ (by rfl) (by exact wraps_own (wrapsS KW.out b11) HW.out _) ⟨w11.heap.size, 0, none⟩ 1 _ [.int .i64 ((nd : Int) + 1), .int .i64 zo, .int .i64 ((nd : Int) + 1), .int .i64 zn] (by rfl) (by rfl) (by exact wrap_cells4 _ _ _ _ _) (by simp [Value.oneCell']) (by omega) (by unfold maxLen; omega) (by omega) (by simp <;> omega) _ rfl ?_; intro gB cB wB hownB hgB hatB hltB; have HT : Hid (LvV w [(pk, kb ((nd : Int) + 1) zo), (w.heap.size + 1, svb 0 (.slice none 0 0) (.slice none 0 0)), (w.heap.size, svb ep (.slice ax 15 cx) (.slice a m c))] [fI w5.heap.size (.slice (some ⟨gp, 0, none⟩) q cp) ps, fW wo.heap.size (.slice (some ⟨gB, 0, none⟩) (nw + 1) cB) (ws ++ [((nd : Int) + 1, zo, (nd : Int) + 1, zn)]), fS w2.heap.size (.slice a m c) ls] B (.slice ax 15 cx) U wB) := ⟨hvC, ((HC.out.since b11).since (one_below _ _)).turn1 (r' := fW wo.heap.size (.slice (some ⟨gB, 0, none⟩) (nw + 1) cB) (ws ++ [((nd : Int) + 1, zo, (nd : Int) + 1, zn)])) hgB (wraps_of hownB (by rw [wcells_append]; rfl) (by rw [List.length_append, HW.out]; rfl)) rfl wrapAlone3⟩; have hsB : wo.heap.size ≤ wB.heap.size := Nat.le_trans hs11 (Nat.le_trans (by simp) hgB.size)))
                      all_goals
                        rename_i hHeld
                        have HT2 : Hid (LvV w [(w.heap.size + 1, svb 0 (.slice none 0 0) (.slice none 0 0)), (w.heap.size, svb ep (.slice ax 15 cx) (.slice a m c))] [fI w5.heap.size (.slice (some ⟨gp, 0, none⟩) q cp) ps, fW wo.heap.size (.slice (some ⟨gB, 0, none⟩) (nw + 1) cB) (ws ++ [((nd : Int) + 1, zo, (nd : Int) + 1, zn)]), fS w2.heap.size (.slice a m c) ls] B (.slice ax 15 cx) U wB) := by
                          obtain ⟨h', H⟩ := HT.out
                          exact ⟨h', H.dropb0⟩
                        clear hHeld HT hownB hgB hatB b11 KW KI2 HC q0 q1 q2 q3 q4 q5
                        go_wp2
                        go_roundw
                        case rel => exact ⟨k2 + 1, nw + 1, some ⟨gB, 0, none⟩, cB, ws ++ [((nd : Int) + 1, zo, (nd : Int) + 1, zn)], rfl, by go_num, by omega, by omega, hsB, (by show _ = _; rw [List.length_append, HW.out]; rfl), (by rw [HU.out]; exact HT2)⟩
                        case measure => simp [intOf] <;> omega
                    · have HT2 : Hid (LvV w [(w.heap.size + 1, svb 0 (.slice none 0 0) (.slice none 0 0)), (w.heap.size, svb ep (.slice ax 15 cx) (.slice a m c))] [fI w5.heap.size (.slice (some ⟨gp, 0, none⟩) q cp) ps, fW wo.heap.size (.slice aw nw cw) ws, fS w2.heap.size (.slice a m c) ls] B (.slice ax 15 cx) U wa) := by
                        obtain ⟨h', H⟩ := HL1.out
                        exact ⟨h', H.dropb0⟩
                      clear HL1
                      go_wp2
                      go_roundw
                      case rel => exact ⟨k2 + 1, nw, aw, cw, ws, rfl, by go_num, by omega, by omega, hsa, HW, (by rw [HU.out]; exact HT2)⟩
                      case measure => simp [intOf] <;> omega
              · have HAll := hidS (show ps.take k2 = ps from List.take_of_length_le (by have := HQ.out; omega))
                rw [HAll.out] at HL
                obtain ⟨vsF, HVF⟩ : ∃ V, Hid (raiseL vs (idx ps) = V) := ⟨_, rfl⟩
                rw [HVF.out] at HL
                obtain ⟨hvF, HF⟩ := HL.out
                obtain ⟨⟨q0, q1, q2⟩, _, _, _⟩ := box3 HF.b1
                have HFd := hidS HF.drew
                have KIF := hidS (show Ints B (.slice ax 15 cx) vsF wr.drew from HF.drew.exOn)
                have hwrs : w.heap.size + 1 < wr.heap.size := blkLt HF.b0
                have hlf15 : (8 : Int) ≤ 8 + (j : Int) ∧ 8 + (j : Int) ≤ 15 := ⟨by omega, by omega⟩
                have HLf := hidS hlf15
                clear HF HL hlf15
                go_wp2
                go_region_held3 (fun W => W.cell? ⟨w.heap.size, 0, none⟩ = some (.int .i64 ep) ∧ W.cell? ⟨w.heap.size, 1, none⟩ = some (.slice ax 15 cx) ∧ W.cell? ⟨w.heap.size, 2, none⟩ = some (.slice a m c))
                  (first | exact ⟨q0, q1, q2⟩ | exact three_since ‹_› b12 | exact three_set ‹_› (by simp) (by simp) (by simp) _ _ _ | assumption)
                  ((go_at_call 33; refine (l3Keys_any ep _ KIF.out HLf.out hvF).mono ?_; rintro e w12 ⟨a12, c12, rfl, k12, b12⟩; have HX12 := hidS (HFd.out.since b12); have K12 := hidS k12; have hn12 : (Value.slice a12 4 c12).ownBlock ≠ some (w.heap.size + 1) := (fun e => by have : w.heap.size + 1 < wr.heap.size := hwrs; have := (k12.lt _ e).1; exact absurd this (Nat.not_le.2 hwrs)); obtain ⟨⟨o0, o1, o2⟩, f0, f1, f2⟩ := box3 HX12.out.b0))
                all_goals
                  rename_i hHeld
                  have HE := hidS (((HX12.out.s300 (.int .i64 ep)).s301 (.slice ax 15 cx)).s302 (.slice a m c))
                  have HKk := hidS (keysKeep (o := 2) (keysKeep (o := 1) (keysKeep (o := 0) (K12.out.mono (show w.heap.size ≤ wr.drew.heap.size by show w.heap.size ≤ wr.heap.size; omega)) (.int .i64 ep) hn12) (.slice ax 15 cx) hn12) (.slice a m c) hn12)
                  have hKl : ((keysOn vsF (8 + (j : Int))).reverse).length = 4 := by rw [List.length_reverse, keysOn_len HLf.out]
                  have hls := HLS.out
                  have hws := HW.out
                  clear hHeld HX12 K12 hn12 b12 o0 o1 o2 f0 f1 f2 q0 q1 q2 HFd KIF k12
                  generalize ((w12.setCell ⟨w.heap.size + 1, 0, none⟩ (.int .i64 ep)).setCell ⟨w.heap.size + 1, 1, none⟩ (.slice ax 15 cx)).setCell ⟨w.heap.size + 1, 2, none⟩ (.slice a m c) = WF at *
                  go_wp2
                  obtain ⟨⟨z0, z1, z2⟩, _, _, _⟩ := box3 HE.out.b0
                  have kS : Seats w2.heap.size (.slice a m c) ls WF := HE.out.r2
                  have kW : Wraps wo.heap.size (.slice aw nw cw) ws WF := HE.out.r1
                  have kI : Ints B (.slice ax 15 cx) vsF WF := HE.out.exOn
                  exact bodyPost_ret (v := .tuple #[svv ep (.slice ax 15 cx) (.slice a m c), .slice aw nw cw, .slice a12 4 c12, .int .i64 0]) (by simp [results, Try.results83, go_sem, z0, z1, z2]) rfl (.inr ⟨j, _, _, ws, _, _, hj8, HSB.out, rfl, (by rw [HPS.out, HVF.out]; exact kI), (by rw [HSI.out]; exact kS.mono hs2), kW.mono hso, by omega, HKk.out, by omega, HE.out.bel⟩)
          | false =>
            have tokA : True := trivial
            have hmk' := hdb rfl
            rename World => wo
            have HSI := hidS (restIn_ef (by have := HN.out; omega) HR.out)
            clear HR
            go_wp2_with (at_builtin; have _t := tokA; clear _t tokA; refine wpList_append_own _ rfl _ _ 41 rfl w2.heap.size 90 iS (.agg #[.int .i64 0, .int .i64 0]) 2 16 Try.underlying41 hiS hS0 hS1 hS2 rfl (by decide) _ _ _ rfl (seatsOwn (show Seats w2.heap.size (.slice a m c) ls wo from HH.out.r0) HM.out _) ⟨wo.heap.size, 0, none⟩ 1 1 [.int .i64 mem, .int .i64 (8 + (j : Int))] rfl rfl (seatCell2 _ _ _ _ rfl) (by simp [Value.oneCell']) (by unfold maxLen; omega) (by omega) (by simp <;> omega) ?_; intro v' w8 hown' hgrow _; obtain ⟨a8, c8, hv', hI'⟩ := seatRow2 (xs := ls ++ [(mem, (8 + (j : Int)))]) hown' (kcells_snoc _ _ _) (by rw [List.length_append, HM.out]; rfl); subst hv'; have HM8 : Hid ((ls ++ [(mem, (8 + (j : Int)))]).length = m + 1) := (by show _ = _; rw [List.length_append, HM.out]; rfl); have HH8 := hidS (HH.out.seat (fun e => by simp [objType] at e) (fun e => by simp [objType] at e) hgrow hI'); have hs8 : w2.heap.size ≤ w8.heap.size := Nat.le_trans (by assumption) (Nat.le_trans (by simp) hgrow.size); clear hown' hI' hgrow; obtain ⟨⟨s0, s1, s2⟩, e0, e1, e2⟩ := box3 HH8.out.b1)
            have HH5 := hidS ((HH8.out.s312 (.slice a8 (m + 1) c8)).add (one_below _ (.cells #[] 112)) (r := fW w8.heap.size (.slice (some ⟨w8.heap.size, 0, none⟩) 0 0) []) (litWs w8 _ _) (by simp [World.setCell]))
            have hso : w.heap.size ≤ w8.heap.size := Nat.le_trans hs2 (by assumption)
            have hs5 : w8.heap.size ≤ ((w8.setCell ⟨w.heap.size, 2, none⟩ (.slice a8 (m + 1) c8)).alloc (.cells #[] 112)).heap.size := by simp [World.setCell]
            have hls := HM8.out
            generalize (w8.setCell ⟨w.heap.size, 2, none⟩ (.slice a8 (m + 1) c8)).alloc (.cells #[] 112) = w5 at *
            refine (specPathOf_any (8 + (j : Int)) _).mono ?_
            rintro e w6 ⟨pv, rfl, hP, b6⟩
            obtain ⟨ap, cp, hvp, hmp, _⟩ := hP.row
            subst hvp
            have hpl := path_len (8 + (j : Int))
            have HPI := hidS (path_in (8 + (j : Int)))
            have HH6 := hidS (HH5.out.add b6 (r := fI w5.heap.size (.slice ap (path (8 + (j : Int))).length cp) (path (8 + (j : Int)))) hP (Nat.le_refl _))
            have hs6 : w8.heap.size ≤ w6.heap.size := Nat.le_trans hs5 b6.size
            clear hP b6 HH5 HH8 HH3
            generalize hps : path (8 + (j : Int)) = ps at *
            have HPS := hidS hps
            clear hps
            generalize hq : ps.length = q at hmp hpl HH6 ⊢
            have HQ := hidS hq
            clear hq
            have HLS := hidS hls
            clear hls
            go_wp2
            go_loopw [12, 14] (fun wv i wr => ∃ (k2 nw : Nat) (aw : Option Addr) (cw : Nat) (ws : List W4), wv = .slice aw nw cw ∧ i = .int .i64 (k2 : Int) ∧ k2 ≤ q ∧ nw ≤ k2 ∧ w8.heap.size ≤ wr.heap.size ∧ Hid (ws.length = nw) ∧ Hid (LvV w [(w.heap.size + 1, svb 0 (.slice none 0 0) (.slice none 0 0)), (w.heap.size, svb ep (.slice ax 15 cx) (.slice a8 (m + 1) c8))] [fI w5.heap.size (.slice ap q cp) ps, fW w8.heap.size (.slice aw nw cw) ws, fS w2.heap.size (.slice a8 (m + 1) c8) (ls ++ [(mem, 8 + (j : Int))])] B (.slice ax 15 cx) (raiseL vs (idx (ps.take k2))) wr)) (fun _ i _ => q - (intOf i).toNat)
            case atStart => exact ⟨0, 0, _, _, [], rfl, rfl, Nat.zero_le _, Nat.le_refl _, hs6, rfl, ⟨hl, HH6.out⟩⟩
            case round =>
              obtain ⟨k2, nw, aw, cw, ws, rfl, rfl, hk2, hnw, hswo, HW, HL⟩ := hrel
              by_cases hlt2 : k2 < q
              · obtain ⟨vsA, HV⟩ : ∃ V, Hid (raiseL vs (idx (ps.take k2)) = V) := ⟨_, rfl⟩
                rw [HV.out] at HL
                have hqk : k2 < ps.length := by have := HQ.out; omega
                have hb15 := HPI.out k2 hqk
                obtain ⟨nd, hnd⟩ : ∃ nd : Nat, ps[k2] = (nd : Int) + 1 := ⟨(ps[k2] - 1).toNat, by omega⟩
                have hnd15 : nd < 15 := by omega
                obtain ⟨gp, hgp⟩ : ∃ gp, ap = some ⟨gp, 0, none⟩ := by
                  obtain ⟨_, H⟩ := HL.out
                  have hI : Ints _ _ ps wr := H.r0
                  rcases hI.form with ⟨_, e'⟩ | ⟨g', cap', e, _⟩
                  · rw [e'] at hqk; simp at hqk
                  · injection e with e; exact ⟨g', e⟩
                subst hgp
                obtain ⟨q0, q1, q2, q3, _⟩ := LvR.cells HL.out.weak gp cp (by rw [HQ.out]) hqk hnd
                obtain ⟨hvA, HA'⟩ := HL.out
                have HU0 := hidS (show raiseL vs (idx (ps.take (k2 + 1))) = vsA.set nd (wrap64 (vAt vsA nd + 1)) by rw [raise_step vs ps k2 nd hqk hnd, HV.out])
                have HA := hidS HA'
                have KI := hidS (show Ints B (.slice ax 15 cx) vsA wr from HA'.exOn)
                have HND := hidS hnd
                clear hb15 hnd HL HA'
                have HS : Hid (∀ W, Below wr.heap.size wr W → (W.cell? ⟨w.heap.size, 0, none⟩ = some (.int .i64 ep) ∧ W.cell? ⟨w.heap.size, 1, none⟩ = some (.slice ax 15 cx) ∧ W.cell? ⟨w.heap.size, 2, none⟩ = some (.slice a8 (m + 1) c8) ∧ W.cell? ⟨gp, k2, none⟩ = some (.int .i64 ((nd : Int) + 1)) ∧ Below wr.heap.size wr W)) := fun W h => ⟨cell_since q0 h, cell_since q1 h, cell_since q2 h, cell_since q3 h, h⟩
                have oD : Hid ((wr.alloc (kb 0 0)).drew.heap[wr.heap.size]? = some (kb 0 0)) := heap_alloc_new _ _
                obtain ⟨zo, hzo⟩ : ∃ zo, vAt vsA nd = zo := ⟨_, rfl⟩
                go_wp2
                go_region_held3 (fun W => W.cell? ⟨w.heap.size, 0, none⟩ = some (.int .i64 ep) ∧ W.cell? ⟨w.heap.size, 1, none⟩ = some (.slice ax 15 cx) ∧ W.cell? ⟨w.heap.size, 2, none⟩ = some (.slice a8 (m + 1) c8) ∧ W.cell? ⟨gp, k2, none⟩ = some (.int .i64 ((nd : Int) + 1)) ∧ Below wr.heap.size wr W)
                  (first | exact HS.out _ (Below.refl _ _).drew | exact HS.out _ (more (fiveB ‹_›) b7) | exact HS.out _ (more (fiveB ‹_›) (one_below _ _)) | exact HS.out _ (more bel (one_below _ _)) | exact HS.out _ (((fiveB ‹_›).setCell (by simp <;> omega) _).setCell (by simp <;> omega) _))
                  ((go_at_call 59; refine (l3Key_any ep nd hnd15 hvA (KI.out.since (fiveB ‹_›))).mono ?_; rw [hzo]; rintro e w7 ⟨rfl, b7⟩; have bel := more (fiveB ‹_›) b7; have z7 := bel.size; (first | (have oA := blkSince oD.out b7; obtain ⟨⟨o0, o1⟩, f0, f1⟩ := box2K oA) | skip)))
                all_goals
                  rename_i hHeld
                  have hbW := fiveB hHeld
                  clear hHeld
                  first
                    | (have oK := box2K_set1 (box2K_set0 oA (.int .i64 ((nd : Int) + 1))) (.int .i64 zo)
                       have HG := hidS (HA.out.got hbW oK (Nat.le_refl _))
                       have hsg := Nat.le_trans hswo hbW.size
                       clear oA oK hbW o0 o1 f0 f1
                       clear bel z7 b7 HS oD q0 q1 q2 q3 KI HA
                       generalize ((w7.setCell ⟨wr.heap.size, 0, none⟩ (.int .i64 ((nd : Int) + 1))).setCell ⟨wr.heap.size, 1, none⟩ (.int .i64 zo)) = wg at *
                       generalize wr.heap.size = pk at *)
                    | (have oK := heap_alloc_new w7 (kb ((nd : Int) + 1) zo)
                       have HG := hidS (HA.out.got hbW oK z7)
                       have hsg := Nat.le_trans hswo hbW.size
                       clear oK hbW
                       clear bel z7 b7 HS oD q0 q1 q2 q3 KI HA
                       generalize (w7.alloc (kb ((nd : Int) + 1) zo)) = wg at *
                       generalize w7.heap.size = pk at *)
                  have HL0 : Hid (LvV w [(pk, kb ((nd : Int) + 1) zo), (w.heap.size + 1, svb 0 (.slice none 0 0) (.slice none 0 0)), (w.heap.size, svb ep (.slice ax 15 cx) (.slice a8 (m + 1) c8))] [fI w5.heap.size (.slice (some ⟨gp, 0, none⟩) q cp) ps, fW w8.heap.size (.slice aw nw cw) ws, fS w2.heap.size (.slice a8 (m + 1) c8) (ls ++ [(mem, 8 + (j : Int))])] B (.slice ax 15 cx) vsA wg.drew) := ⟨hvA, HG.out.drew⟩
                  have SO : Hid (∀ W, LvR w [(pk, kb ((nd : Int) + 1) zo), (w.heap.size + 1, svb 0 (.slice none 0 0) (.slice none 0 0)), (w.heap.size, svb ep (.slice ax 15 cx) (.slice a8 (m + 1) c8))] [fI w5.heap.size (.slice (some ⟨gp, 0, none⟩) q cp) ps, fW w8.heap.size (.slice aw nw cw) ws, fS w2.heap.size (.slice a8 (m + 1) c8) (ls ++ [(mem, 8 + (j : Int))])] B (.slice ax 15 cx) W → (W.cell? ⟨w.heap.size, 0, none⟩ = some (.int .i64 ep) ∧ W.cell? ⟨w.heap.size, 1, none⟩ = some (.slice ax 15 cx) ∧ W.cell? ⟨w.heap.size, 2, none⟩ = some (.slice a8 (m + 1) c8) ∧ W.cell? ⟨gp, k2, none⟩ = some (.int .i64 ((nd : Int) + 1)) ∧ W.cell? ⟨pk, 0, none⟩ = some (.int .i64 ((nd : Int) + 1)) ∧ W.cell? ⟨pk, 1, none⟩ = some (.int .i64 zo) ∧ LvR w [(pk, kb ((nd : Int) + 1) zo), (w.heap.size + 1, svb 0 (.slice none 0 0) (.slice none 0 0)), (w.heap.size, svb ep (.slice ax 15 cx) (.slice a8 (m + 1) c8))] [fI w5.heap.size (.slice (some ⟨gp, 0, none⟩) q cp) ps, fW w8.heap.size (.slice aw nw cw) ws, fS w2.heap.size (.slice a8 (m + 1) c8) (ls ++ [(mem, 8 + (j : Int))])] B (.slice ax 15 cx) W)) := fun W h => LvR.cells6 h gp cp (by rw [HQ.out]) hqk HND.out
                  obtain ⟨q0, q1, q2, q3, q4, q5, _⟩ := SO.out _ ⟨vsA, hvA, HG.out⟩
                  clear HG hzo hvA
                  obtain ⟨U, HUz⟩ : ∃ U, Hid (vsA.set nd (wrap64 (vAt vsA nd + 1)) = U) := ⟨_, rfl⟩
                  have HU := hidS (show raiseL vs (idx (ps.take (k2 + 1))) = U by rw [HU0.out, HUz.out])
                  go_wp2
                  go_region_held3 (fun W => W.cell? ⟨w.heap.size, 0, none⟩ = some (.int .i64 ep) ∧ W.cell? ⟨w.heap.size, 1, none⟩ = some (.slice ax 15 cx) ∧ W.cell? ⟨w.heap.size, 2, none⟩ = some (.slice a8 (m + 1) c8) ∧ W.cell? ⟨gp, k2, none⟩ = some (.int .i64 ((nd : Int) + 1)) ∧ W.cell? ⟨pk, 0, none⟩ = some (.int .i64 ((nd : Int) + 1)) ∧ W.cell? ⟨pk, 1, none⟩ = some (.int .i64 zo) ∧ LvR w [(pk, kb ((nd : Int) + 1) zo), (w.heap.size + 1, svb 0 (.slice none 0 0) (.slice none 0 0)), (w.heap.size, svb ep (.slice ax 15 cx) (.slice a8 (m + 1) c8))] [fI w5.heap.size (.slice (some ⟨gp, 0, none⟩) q cp) ps, fW w8.heap.size (.slice aw nw cw) ws, fS w2.heap.size (.slice a8 (m + 1) c8) (ls ++ [(mem, 8 + (j : Int))])] B (.slice ax 15 cx) W)
                    (first | exact SO.out _ HL0.out.weak | exact SO.out _ ⟨_, hv9, HMx.out⟩ | exact SO.out _ ⟨_, hv9, ((HMx.out.s320 _).s321 _).s322 _⟩ | assumption)
                    ((go_at_call 85; obtain ⟨hvB, HB⟩ := HL0.out; refine (l3Raise_eq ep a8 (m + 1) c8 nd hnd15 hvB HB.exOn).mono ?_; rintro e w9 ⟨rfl, k9, g9⟩; rw [HUz.out] at k9; have hv9 : U.length = 15 := by { rw [← HUz.out, List.length_set]; exact hvB }; have HMx := hidS (HB.mut (ex' := fI B (.slice ax 15 cx) U) g9 k9 rfl); obtain ⟨⟨o0, o1, o2⟩, f0, f1, f2⟩ := box3 HMx.out.b2; have hs9 := g9.size))
                  all_goals
                    rename_i hHeld
                    have HL1 : Hid (LvV w [(pk, kb ((nd : Int) + 1) zo), (w.heap.size + 1, svb 0 (.slice none 0 0) (.slice none 0 0)), (w.heap.size, svb ep (.slice ax 15 cx) (.slice a8 (m + 1) c8))] [fI w5.heap.size (.slice (some ⟨gp, 0, none⟩) q cp) ps, fW w8.heap.size (.slice aw nw cw) ws, fS w2.heap.size (.slice a8 (m + 1) c8) (ls ++ [(mem, 8 + (j : Int))])] B (.slice ax 15 cx) U (((w9.setCell ⟨w.heap.size, 0, none⟩ (.int .i64 ep)).setCell ⟨w.heap.size, 1, none⟩ (.slice ax 15 cx)).setCell ⟨w.heap.size, 2, none⟩ (.slice a8 (m + 1) c8))) := ⟨hv9, ((HMx.out.s320 _).s321 _).s322 _⟩
                    have hsa : w8.heap.size ≤ (((w9.setCell ⟨w.heap.size, 0, none⟩ (.int .i64 ep)).setCell ⟨w.heap.size, 1, none⟩ (.slice ax 15 cx)).setCell ⟨w.heap.size, 2, none⟩ (.slice a8 (m + 1) c8)).heap.size := by
                      simp only [World.setCell, Array.size_modify]
                      exact Nat.le_trans hsg hs9
                    clear hHeld HMx f0 f1 f2 o0 o1 o2 k9 g9 hs9 HL0 q0 q1 q2 q3 q4 q5 HB hv9
                    generalize (((w9.setCell ⟨w.heap.size, 0, none⟩ (.int .i64 ep)).setCell ⟨w.heap.size, 1, none⟩ (.slice ax 15 cx)).setCell ⟨w.heap.size, 2, none⟩ (.slice a8 (m + 1) c8)) = wa at *
                    by_cases hk0 : (0 : Int) < (k2 : Int)
                    · obtain ⟨q0, q1, q2, q3, q4, q5, _⟩ := SO.out _ HL1.out.weak
                      obtain ⟨hvC, HC'⟩ := HL1.out
                      have HC := hidS HC'.drew
                      have KI2 := hidS (show Ints B (.slice ax 15 cx) U wa.drew from HC'.drew.exOn)
                      have KW := hidS (show Wraps w8.heap.size (.slice aw nw cw) ws wa.drew from HC'.drew.r1)
                      obtain ⟨zn, hzn⟩ : ∃ zn, vAt U nd = zn := ⟨_, rfl⟩
                      clear HC' HL1
                      go_wp2
                      go_region_held3 (fun W => W.cell? ⟨w.heap.size, 0, none⟩ = some (.int .i64 ep) ∧ W.cell? ⟨w.heap.size, 1, none⟩ = some (.slice ax 15 cx) ∧ W.cell? ⟨w.heap.size, 2, none⟩ = some (.slice a8 (m + 1) c8) ∧ W.cell? ⟨gp, k2, none⟩ = some (.int .i64 ((nd : Int) + 1)) ∧ W.cell? ⟨pk, 0, none⟩ = some (.int .i64 ((nd : Int) + 1)) ∧ W.cell? ⟨pk, 1, none⟩ = some (.int .i64 zo))
                        (first | exact ⟨q0, q1, q2, q3, q4, q5⟩ | exact six_since ‹_› b11 | exact six_since ‹_› (one_below _ _) | exact sixOf (LvR.cells6 HT.out.weak gp cp (by rw [HQ.out]) hqk HND.out) | assumption)
                        (first
                          | (go_at_call 59; refine (l3Key_any ep nd hnd15 hvC KI2.out).mono ?_; rw [hzn]; rintro e w11 ⟨rfl, b11⟩; have hs11 : w8.heap.size ≤ w11.heap.size := Nat.le_trans hsa b11.size)
                          | (refine step_append_k _ (by rfl) _ _ _ (by rfl) w8.heap.size 112 iW (.agg #[.int .i64 0, .int .i64 0, .int .i64 0, .int .i64 0]) 4 32 Try.underlying27 hiW hW0 hW1 hW2 rfl (by omega) (.slice aw nw cw) nw _ (by rfl) (by exact wraps_own (wrapsS KW.out b11) HW.out _) ⟨w11.heap.size, 0, none⟩ 1 _ [.int .i64 ((nd : Int) + 1), .int .i64 zo, .int .i64 ((nd : Int) + 1), .int .i64 zn] (by rfl) (by rfl) (by exact wrap_cells4 _ _ _ _ _) (by simp [Value.oneCell']) (by omega) (by unfold maxLen; omega) (by omega) (by simp <;> omega) _ rfl ?_; intro gB cB wB hownB hgB hatB hltB; have HT : Hid (LvV w [(pk, kb ((nd : Int) + 1) zo), (w.heap.size + 1, svb 0 (.slice none 0 0) (.slice none 0 0)), (w.heap.size, svb ep (.slice ax 15 cx) (.slice a8 (m + 1) c8))] [fI w5.heap.size (.slice (some ⟨gp, 0, none⟩) q cp) ps, fW w8.heap.size (.slice (some ⟨gB, 0, none⟩) (nw + 1) cB) (ws ++ [((nd : Int) + 1, zo, (nd : Int) + 1, zn)]), fS w2.heap.size (.slice a8 (m + 1) c8) (ls ++ [(mem, 8 + (j : Int))])] B (.slice ax 15 cx) U wB) := ⟨hvC, ((HC.out.since b11).since (one_below _ _)).turn1 (r' := fW w8.heap.size (.slice (some ⟨gB, 0, none⟩) (nw + 1) cB) (ws ++ [((nd : Int) + 1, zo, (nd : Int) + 1, zn)])) hgB (wraps_of hownB (by rw [wcells_append]; rfl) (by rw [List.length_append, HW.out]; rfl)) rfl wrapAlone3⟩; have hsB : w8.heap.size ≤ wB.heap.size := Nat.le_trans hs11 (Nat.le_trans (by simp) hgB.size)))
                      all_goals
                        rename_i hHeld
                        have HT2 : Hid (LvV w [(w.heap.size + 1, svb 0 (.slice none 0 0) (.slice none 0 0)), (w.heap.size, svb ep (.slice ax 15 cx) (.slice a8 (m + 1) c8))] [fI w5.heap.size (.slice (some ⟨gp, 0, none⟩) q cp) ps, fW w8.heap.size (.slice (some ⟨gB, 0, none⟩) (nw + 1) cB) (ws ++ [((nd : Int) + 1, zo, (nd : Int) + 1, zn)]), fS w2.heap.size (.slice a8 (m + 1) c8) (ls ++ [(mem, 8 + (j : Int))])] B (.slice ax 15 cx) U wB) := by
                          obtain ⟨h', H⟩ := HT.out
                          exact ⟨h', H.dropb0⟩
                        clear hHeld HT hownB hgB hatB b11 KW KI2 HC q0 q1 q2 q3 q4 q5
                        go_wp2
                        go_roundw
                        case rel => exact ⟨k2 + 1, nw + 1, some ⟨gB, 0, none⟩, cB, ws ++ [((nd : Int) + 1, zo, (nd : Int) + 1, zn)], rfl, by go_num, by omega, by omega, hsB, (by show _ = _; rw [List.length_append, HW.out]; rfl), (by rw [HU.out]; exact HT2)⟩
                        case measure => simp [intOf] <;> omega
                    · have HT2 : Hid (LvV w [(w.heap.size + 1, svb 0 (.slice none 0 0) (.slice none 0 0)), (w.heap.size, svb ep (.slice ax 15 cx) (.slice a8 (m + 1) c8))] [fI w5.heap.size (.slice (some ⟨gp, 0, none⟩) q cp) ps, fW w8.heap.size (.slice aw nw cw) ws, fS w2.heap.size (.slice a8 (m + 1) c8) (ls ++ [(mem, 8 + (j : Int))])] B (.slice ax 15 cx) U wa) := by
                        obtain ⟨h', H⟩ := HL1.out
                        exact ⟨h', H.dropb0⟩
                      clear HL1
                      go_wp2
                      go_roundw
                      case rel => exact ⟨k2 + 1, nw, aw, cw, ws, rfl, by go_num, by omega, by omega, hsa, HW, (by rw [HU.out]; exact HT2)⟩
                      case measure => simp [intOf] <;> omega
              · have HAll := hidS (show ps.take k2 = ps from List.take_of_length_le (by have := HQ.out; omega))
                rw [HAll.out] at HL
                obtain ⟨vsF, HVF⟩ : ∃ V, Hid (raiseL vs (idx ps) = V) := ⟨_, rfl⟩
                rw [HVF.out] at HL
                obtain ⟨hvF, HF⟩ := HL.out
                obtain ⟨⟨q0, q1, q2⟩, _, _, _⟩ := box3 HF.b1
                have HFd := hidS HF.drew
                have KIF := hidS (show Ints B (.slice ax 15 cx) vsF wr.drew from HF.drew.exOn)
                have hwrs : w.heap.size + 1 < wr.heap.size := blkLt HF.b0
                have hlf15 : (8 : Int) ≤ 8 + (j : Int) ∧ 8 + (j : Int) ≤ 15 := ⟨by omega, by omega⟩
                have HLf := hidS hlf15
                clear HF HL hlf15
                go_wp2
                go_region_held3 (fun W => W.cell? ⟨w.heap.size, 0, none⟩ = some (.int .i64 ep) ∧ W.cell? ⟨w.heap.size, 1, none⟩ = some (.slice ax 15 cx) ∧ W.cell? ⟨w.heap.size, 2, none⟩ = some (.slice a8 (m + 1) c8))
                  (first | exact ⟨q0, q1, q2⟩ | exact three_since ‹_› b12 | exact three_set ‹_› (by simp) (by simp) (by simp) _ _ _ | assumption)
                  ((go_at_call 33; refine (l3Keys_any ep _ KIF.out HLf.out hvF).mono ?_; rintro e w12 ⟨a12, c12, rfl, k12, b12⟩; have HX12 := hidS (HFd.out.since b12); have K12 := hidS k12; have hn12 : (Value.slice a12 4 c12).ownBlock ≠ some (w.heap.size + 1) := (fun e => by have : w.heap.size + 1 < wr.heap.size := hwrs; have := (k12.lt _ e).1; exact absurd this (Nat.not_le.2 hwrs)); obtain ⟨⟨o0, o1, o2⟩, f0, f1, f2⟩ := box3 HX12.out.b0))
                all_goals
                  rename_i hHeld
                  have HE := hidS (((HX12.out.s300 (.int .i64 ep)).s301 (.slice ax 15 cx)).s302 (.slice a8 (m + 1) c8))
                  have HKk := hidS (keysKeep (o := 2) (keysKeep (o := 1) (keysKeep (o := 0) (K12.out.mono (show w.heap.size ≤ wr.drew.heap.size by show w.heap.size ≤ wr.heap.size; omega)) (.int .i64 ep) hn12) (.slice ax 15 cx) hn12) (.slice a8 (m + 1) c8) hn12)
                  have hKl : ((keysOn vsF (8 + (j : Int))).reverse).length = 4 := by rw [List.length_reverse, keysOn_len HLf.out]
                  have hls := HLS.out
                  have hws := HW.out
                  clear hHeld HX12 K12 hn12 b12 o0 o1 o2 f0 f1 f2 q0 q1 q2 HFd KIF k12
                  generalize ((w12.setCell ⟨w.heap.size + 1, 0, none⟩ (.int .i64 ep)).setCell ⟨w.heap.size + 1, 1, none⟩ (.slice ax 15 cx)).setCell ⟨w.heap.size + 1, 2, none⟩ (.slice a8 (m + 1) c8) = WF at *
                  go_wp2
                  obtain ⟨⟨z0, z1, z2⟩, _, _, _⟩ := box3 HE.out.b0
                  have kS : Seats w2.heap.size (.slice a8 (m + 1) c8) (ls ++ [(mem, 8 + (j : Int))]) WF := HE.out.r2
                  have kW : Wraps w8.heap.size (.slice aw nw cw) ws WF := HE.out.r1
                  have kI : Ints B (.slice ax 15 cx) vsF WF := HE.out.exOn
                  exact bodyPost_ret (v := .tuple #[svv ep (.slice ax 15 cx) (.slice a8 (m + 1) c8), .slice aw nw cw, .slice a12 4 c12, .int .i64 0]) (by simp [results, Try.results83, go_sem, z0, z1, z2]) rfl (.inr ⟨j, _, _, ws, _, _, hj8, HSB.out, rfl, (by rw [HPS.out, HVF.out]; exact kI), (by rw [HSI.out]; exact kS.mono hs2), kW.mono hso, by omega, HKk.out, by omega, HE.out.bel⟩)

theorem l3Join_any {B C : Nat} {x y : Value} {vs : List Int} {ss : List (Int × Int)} {w : World} (ep mem : Int) (hl : vs.length = 15) (hx : Ints B x vs w) (hy : Seats C y ss w) (hs : ss.length ≤ 100) :
    Calls Try.prog 83 #[svv ep x y, .int .i64 mem] w fun e w' => JnIs w B C ep x y ss e w' := (l3Join_eq ep mem hl hx hy hs).mono fun _ _ h => h.elim (fun h => .inl h) fun ⟨_, y', v', ws', u', ks', _, _, he, hI, hS, hW, h8, hK, h4, hr⟩ => .inr ⟨_, y', _, v', ws', u', ks', he, by rw [raiseL_len, hl], hI, hS, Nat.le_of_eq (seatIn_len _ _ _), hW, h8, hK, h4, hr, rfl⟩
end Go.Proofs.Ytjilbfohfgalkaa
