
/- KeysFor of the model. -/
import Derived.Test.YtplinjepeahahaaKF3
import Derived.Test.YtplinjepeahahaaSpecPath
import Derived.Deep.RegionHeld3
import Derived.Deep.AppendLies
namespace Go.Proofs.Ytplinjepeahahaa
open Go.RowKit

theorem step_append_k {P : Program} (w : World) {ops : Array Oper} {o : Oper} {a : Act} {K : Act → World → Prop} {Q : Exit → Act → World → Prop} {E : Prop} (hw : Region.wanted o (yielded ops a.tmps) = true) (s x : Operand) (t : TypeId)
    (ho : o.op = .call { callee := .builtin .append, args := #[s, x], argTypes := #[t, t] })
    (base : Nat) (e : TypeId) (i : TypeInfo) (z : Value) (size bytes : Nat) (ht : P.underlying t = some (.slice e)) (hi : P.info? e = some i) (hz : i.zero = some z)
    (hsize : i.size = size) (hby : i.bytes = bytes) (hzs : z.cells.size = size) (hsz : 0 < size)
    (v : Value) (n : Nat) (xs : List Value) (hs : a.eval s = v) (hown : w.ownsRow base e size v n xs)
    (ad : Addr) (m c : Nat) (news : List Value) (hx : a.eval x = .slice (some ad) m c) (hl : news.length = m * size) (hnews : ∀ j u, news[j]? = some u → w.cell? (ad.add j) = some u) (h1 : ∀ u ∈ news, u.oneCell' = true)
    (hm : 0 < m) (h63 : n + m ≤ maxLen) (hbytes : (n + m) * bytes ≤ 140737488355328) (hbase : base ≤ w.heap.size) (H : Nat) (hH : w.heap.size = H)
    (h : ∀ g cap w', w'.ownsRow base e size (.slice (some ⟨g, 0, none⟩) (n + m) cap) (n + m) (xs ++ news) → w.grownBy w' v.ownBlock → (v.ownBlock = some g ∨ g = H) → g < w'.heap.size → K (a.put o.dst (.slice (some ⟨g, 0, none⟩) (n + m) cap)) w') :
    if Region.wanted o (yielded ops a.tmps) = true then Oper.wp P o a w K Q else E := by
  rw [if_pos hw]
  exact wp_append_lies w s x t ho base e i z size bytes ht hi hz hsize hby hzs hsz v n xs hs hown ad m c news hx hl hnews h1 hm h63 hbytes hbase H hH h
theorem own_ik {B C : Nat} {v u : Value} {xs : List Int} {ys : List (Int × Int)} {W : World} (h : Ints B v xs W) (h' : Keys C u ys W) : ∀ j, u.ownBlock = some j → v.ownBlock ≠ some j := by
  intro j e' e
  rcases h.2 with ⟨rfl, _⟩ | ⟨g, cap, cur, rfl, _, hg, _⟩
  · cases e
  · rcases h'.2 with ⟨rfl, _⟩ | ⟨g', cap', cur', rfl, _, hg', _⟩
    · cases e'
    · simp [Value.ownBlock] at e e'
      subst e e'
      have := hg.symm.trans hg'
      simp at this
/-- What the round's region keeps. -/
def KRest (w : World) (box : Obj) (vp : Value) (ps : List Int) (W : World) : Prop := Ints (w.heap.size + 1 + 1) vp ps W ∧ W.heap[w.heap.size]? = some box ∧ Below w.heap.size w W ∧ w.heap.size + 1 + 1 ≤ W.heap.size
theorem KRest.later {w W W' : World} {box : Obj} {vp : Value} {ps : List Int} (h : KRest w box vp ps W) (hb : Below W.heap.size W W') : KRest w box vp ps W' :=
  ⟨h.1.since hb, (hb.block _ (by have := h.2.2.2; omega)).trans h.2.1, h.2.2.1.trans (hb.mono h.2.2.1.size), by have := hb.size; have := h.2.2.2; omega⟩
theorem KRest.grown {w W W' : World} {box : Obj} {vp : Value} {ps : List Int} {row : Option Nat} (h : KRest w box vp ps W) (hg : W.grownBy W' row) (hr : ∀ k, row = some k → w.heap.size + 1 ≤ k ∧ vp.ownBlock ≠ some k) : KRest w box vp ps W' :=
  ⟨h.1.kept hg (fun k e => (hr k e).2), (hg.block _ (by have := h.2.2.2; omega) (fun e => by have := (hr _ e.symm).1; omega)).trans h.2.1, h.2.2.1.grown hg h.2.2.1.size (fun k e => by have := (hr k e).1; omega), by have := hg.size; have := h.2.2.2; omega⟩
theorem held4_later {w W W' : World} {box : Obj} {vp : Value} {ps : List Int} {p1 p2 p3 p4 : Addr} {v1 v2 v3 v4 : Value} (h : W.cell? p1 = some v1 ∧ W.cell? p2 = some v2 ∧ W.cell? p3 = some v3 ∧ W.cell? p4 = some v4 ∧ KRest w box vp ps W) (hb : Below W.heap.size W W') :
    W'.cell? p1 = some v1 ∧ W'.cell? p2 = some v2 ∧ W'.cell? p3 = some v3 ∧ W'.cell? p4 = some v4 ∧ KRest w box vp ps W' := ⟨cell_since h.1 hb, cell_since h.2.1 hb, cell_since h.2.2.1 hb, cell_since h.2.2.2.1 hb, h.2.2.2.2.later hb⟩
theorem held4_grown {w W W' : World} {box : Obj} {vp : Value} {ps : List Int} {p1 p2 p3 p4 : Addr} {v1 v2 v3 v4 : Value} {row : Option Nat} (h : W.cell? p1 = some v1 ∧ W.cell? p2 = some v2 ∧ W.cell? p3 = some v3 ∧ W.cell? p4 = some v4 ∧ KRest w box vp ps W) (hg : W.grownBy W' row)
    (hr : ∀ k, row = some k → w.heap.size + 1 ≤ k ∧ vp.ownBlock ≠ some k) (b1 : p1.block = w.heap.size) (b2 : p2.block = w.heap.size) (b3 : p3.block = w.heap.size) (b4 : vp.ownBlock = some p4.block) :
    W'.cell? p1 = some v1 ∧ W'.cell? p2 = some v2 ∧ W'.cell? p3 = some v3 ∧ W'.cell? p4 = some v4 ∧ KRest w box vp ps W' :=
  ⟨hg.cell h.1 (fun e => by have := (hr _ e.symm).1; omega), hg.cell h.2.1 (fun e => by have := (hr _ e.symm).1; omega), hg.cell h.2.2.1 (fun e => by have := (hr _ e.symm).1; omega), hg.cell h.2.2.2.1 (fun e => (hr _ e.symm).2 b4), h.2.2.2.2.grown hg hr⟩
theorem keys_own {W : World} {B n : Nat} {v : Value} {xs : List (Int × Int)} (h : Keys B v xs W) (hn : xs.length = n) (o : Obj) : (W.alloc o).ownsRow B 38 2 v n (kcells xs) := by
  subst hn
  exact World.ownsRow.alloc h o
theorem keys_of {W : World} {B g N c : Nat} {ys : List Value} {xs : List (Int × Int)} (h : W.ownsRow B 38 2 (.slice (some ⟨g, 0, none⟩) N c) N ys) (e : ys = kcells xs) (hn : xs.length = N) : Keys B (.slice (some ⟨g, 0, none⟩) N c) xs W := by
  subst e hn
  exact h
theorem drop_rev2 (ws : List (Int × Int)) (j : Nat) (h : j < ws.length) : (ws.drop j).reverse = (ws.drop (j + 1)).reverse ++ [ws[j]] := by
  rw [List.drop_eq_getElem_cons h, List.reverse_cons]
theorem empty_keys (W : World) {S : Nat} (h : W.heap.size = S) : Keys S (.slice (some ⟨S, 0, none⟩) 0 0) [] (W.alloc (.cells #[] 38)) := by
  subst h
  exact World.ownsRow_lit (base := W.heap.size) (size := 2) W #[] 0 (Nat.le_refl _) (by decide) rfl

set_option maxRecDepth 100000 in
set_option maxHeartbeats 4000000 in
theorem l3Keys_any {B : Nat} {x y : Value} {vs : List Int} {w : World} (ep lf : Int) (hx : Ints B x vs w) (hlf : 8 ≤ lf ∧ lf ≤ 15) (hlen : vs.length = 15) :
    Calls Try.prog 52 #[svv ep x y, .int .i64 lf] w fun e w' => ∃ a c, e = .returned (.slice a 4 c) ∧ Keys w.heap.size (.slice a 4 c) (keysOn vs lf).reverse w' ∧ Below w.heap.size w w' := by
  obtain ⟨i0, hi, hz0, hz1, hz2⟩ := info_parts infoK
  have HLen := hidOf' hlen
  have HX := hidOf' hx
  have hB1 := two_below w (svb ep x y) (.cells #[] 38)
  have t0 : ((w.alloc (svb ep x y)).alloc (.cells #[] 38)).heap[w.heap.size]? = some (svb ep x y) := by
    rw [Below.heap_alloc _ _ _ (by simp)]
    exact heap_alloc_new _ _
  have E1 := hidOf' (empty_keys (w.alloc (svb ep x y)) (S := w.heap.size + 1) (by simp))
  have hs1 : ((w.alloc (svb ep x y)).alloc (.cells #[] 38)).heap.size = w.heap.size + 1 + 1 := by simp
  obtain ⟨hp4, hpr⟩ := path_four hlf.1 hlf.2
  have HPR := hidOf' hpr
  have HK4 := hidOf' (keysOn_len (vs := vs) hlf)
  clear hpr hlen hx
  go_enter Try.func52, Try.ntmps52
  go_wp2_with fail
  generalize (w.alloc (svb ep x y)).alloc (.cells #[] 38) = w1 at *
  refine (specPathOf_any lf _).mono ?_
  rintro e w2 ⟨vp, rfl, p2, b2⟩
  obtain ⟨ap, cp, hvp, _, hprow⟩ := p2.row
  rw [hp4] at hvp
  obtain ⟨g, ha⟩ : ∃ g, ap = some ⟨g, 0, none⟩ := by
    rcases hprow with e | ⟨g, e, _⟩
    · rw [e] at hp4; simp at hp4
    · exact ⟨g, e⟩
  subst ha
  subst hvp
  have E2 := hidOf' (keys_since E1.out b2)
  have hR2 : KRest w (svb ep x y) (.slice (some ⟨g, 0, none⟩) 4 cp) (path lf) w2 := ⟨by rw [← hs1]; exact p2, (b2.block _ (by omega)).trans t0, more hB1 b2, by have := b2.size; omega⟩
  have HR2 := hidOf' hR2
  clear hR2 p2 b2 t0 hB1 E1 hprow
  go_wp2
  go_loopw [5, 7] (fun ov i wr => ∃ (k r : Nat) (a : Option Addr) (c : Nat), ov = .slice a r c ∧ i = .int .i64 ((k : Int) - 1) ∧ r + k = 4 ∧ Hid (Keys (w.heap.size + 1) (.slice a r c) ((keysOn vs lf).drop k).reverse wr) ∧ Hid (KRest w (svb ep x y) (.slice (some ⟨g, 0, none⟩) 4 cp) (path lf) wr)) (fun _ i _ => ((intOf i) + 1).toNat)
  case atStart => exact ⟨4, 0, _, _, rfl, rfl, by omega, (by show Keys _ _ _ _; rw [List.drop_of_length_le (by rw [HK4.out]; exact Nat.le_refl _)]; exact E2.out), HR2.out⟩
  case round =>
    obtain ⟨k, r, a, c, rfl, rfl, hk, HKs, HR⟩ := hrel
    clear E2 HR2
    cases k with
    | zero =>
      obtain rfl : r = 4 := by omega
      have HKf := hidOf' (show Keys w.heap.size (.slice a 4 c) (keysOn vs lf).reverse wr from by have := HKs.out; simpa using this.mono (show w.heap.size ≤ w.heap.size + 1 by omega))
      have HBf := hidOf' HR.out.2.2.1
      clear HKs HR
      go_wp2
      go_ret
      exact ⟨a, c, rfl, HKf.out, HBf.out⟩
    | succ j =>
      have hcast : ((j + 1 : Nat) : Int) - 1 = (j : Int) := by omega
      rw [hcast]
      have hj4 : (j : Int) < 4 := by omega
      have hjp : j < (path lf).length := by omega
      have hjk : j < (keysOn vs lf).length := by rw [HK4.out]; omega
      have hbn := HPR.out j hjp
      have HT := hidOf' (drop_rev2 (keysOn vs lf) j hjk)
      have hkj : (keysOn vs lf)[j] = ((path lf)[j], vAt vs ((path lf)[j].toNat - 1)) := by simp [keysOn]
      rw [hkj] at HT
      clear hkj
      have e1 : wr.cell? ⟨g, j, none⟩ = some (.int .i64 (path lf)[j]) := by
        rcases HR.out.1.form with ⟨e, _⟩ | ⟨g', cap', e, _, _, _, _, h3⟩
        · cases e
        · injection e with e; injection e with e; injection e with e; subst e
          exact (h3 j hjp).1
      obtain ⟨nd, hnd⟩ : ∃ nd : Nat, (path lf)[j] = (nd : Int) + 1 := ⟨((path lf)[j] - 1).toNat, by omega⟩
      rw [hnd] at e1 HT hbn
      have hn15 : nd < 15 := by omega
      have hnt : ((nd : Int) + 1).toNat - 1 = nd := by omega
      rw [hnt] at HT
      clear hnd hnt
      obtain ⟨⟨q0, q1, q2⟩, _, _, _⟩ := box3 HR.out.2.1
      have hX : Ints B x vs wr.drew := HX.out.below (HR.out.2.2.1.drew) (fun k e => (HX.out.lt k e).2)
      have HX5 := hidOf' hX
      have hrl : ((keysOn vs lf).drop (j + 1)).reverse.length = r := by rw [List.length_reverse, List.length_drop, HK4.out]; omega
      have hne : ∀ jj, (Value.slice a (r) c).ownBlock = some jj → w.heap.size + 1 ≤ jj ∧ (Value.slice (some ⟨g, 0, none⟩) 4 cp).ownBlock ≠ some jj := fun jj e => ⟨(HKs.out.lt jj e).1, own_ik HR.out.1 HKs.out jj e⟩
      have hP0 : wr.drew.cell? ⟨w.heap.size, 0, none⟩ = some (.int .i64 ep) ∧ wr.drew.cell? ⟨w.heap.size, 1, none⟩ = some x ∧ wr.drew.cell? ⟨w.heap.size, 2, none⟩ = some y ∧ wr.drew.cell? ⟨g, j, none⟩ = some (.int .i64 ((nd : Int) + 1)) ∧ KRest w (svb ep x y) (.slice (some ⟨g, 0, none⟩) 4 cp) (path lf) wr.drew := ⟨q0, q1, q2, e1, HR.out.later (Below.refl _ _).drew⟩
      have HP0 := hidOf' hP0
      have hszr := HR.out.2.2.2
      clear hX hP0
      generalize hvj : vAt vs nd = vj at *
      go_wp2
      go_region_held3 (fun W => W.cell? ⟨w.heap.size, 0, none⟩ = some (.int .i64 ep) ∧ W.cell? ⟨w.heap.size, 1, none⟩ = some x ∧ W.cell? ⟨w.heap.size, 2, none⟩ = some y ∧ W.cell? ⟨g, j, none⟩ = some (.int .i64 ((nd : Int) + 1)) ∧ KRest w (svb ep x y) (.slice (some ⟨g, 0, none⟩) 4 cp) (path lf) W)
        (first | exact HP0.out | exact held4_later ‹_› b5 | exact held4_later ‹_› (one_below _ _) | exact held4_grown ‹_› hgB hne rfl rfl rfl rfl | assumption)
        (first
          | (go_at_call 48; refine (l3Key_any ep nd hn15 HLen.out HX5.out).mono ?_; rintro e w5 ⟨rfl, b5⟩; rw [hvj]; have hs5 := b5.size; have hs5' : wr.heap.size ≤ w5.heap.size := hs5)
          | (refine step_append_k _ (by rfl) _ _ _ (by rfl) (w.heap.size + 1) 38 i0 (.agg #[.int .i64 0, .int .i64 0]) 2 16 Try.underlying43 hi hz0 hz1 hz2 rfl (by omega) (.slice a (r) c) (r) _ (by rfl) (by exact keys_own (keys_since (show Keys _ _ _ wr.drew from HKs.out) b5) hrl _) ⟨w5.heap.size, 0, none⟩ 1 _ [.int .i64 ((nd : Int) + 1), .int .i64 vj] (by rfl) (by rfl) (by exact cell_key _ _ _) (by simp [Value.oneCell']) (by omega) (by unfold maxLen; omega) (by omega) (by simp <;> omega) _ rfl ?_; intro gB cB wB hownB hgB hatB hltB))
      all_goals
        rename_i hHeld
        have HRf := hidOf' hHeld.2.2.2.2
        have HKn := hidOf' (keys_of (xs := ((keysOn vs lf).drop (j + 1)).reverse ++ [((nd : Int) + 1, vj)]) hownB (by rw [kcells_append]; rfl) (by rw [List.length_append, hrl]; rfl))
        clear hHeld hownB hgB b5 HP0 HX5 HKs HR
        go_wp2
        go_roundw
        case rel => exact ⟨j, r + 1, some ⟨gB, 0, none⟩, cB, rfl, by go_num, by omega, (by show Keys _ _ _ _; rw [HT.out]; exact HKn.out), HRf.out⟩
        case measure => simp [intOf] <;> omega

def KB (w : World) (_ep : Int) (x y : Value) (vs : List Int) (ss : List (Int × Int)) (B C : Nat) (W : World) : Prop := Ints B x vs W ∧ Seats C y ss W ∧ Below w.heap.size w W
theorem KB.later {w W W' : World} {ep : Int} {x y : Value} {vs : List Int} {ss : List (Int × Int)} {B C : Nat} (h : KB w ep x y vs ss B C W) (hb : Below W.heap.size W W') : KB w ep x y vs ss B C W' := ⟨h.1.since hb, h.2.1.since hb, h.2.2.trans (hb.mono h.2.2.size)⟩
theorem held3_later {w W W' : World} {ep : Int} {x y : Value} {vs : List Int} {ss : List (Int × Int)} {B C : Nat} {p1 p2 p3 : Addr} {v1 v2 v3 : Value} (h : W.cell? p1 = some v1 ∧ W.cell? p2 = some v2 ∧ W.cell? p3 = some v3 ∧ KB w ep x y vs ss B C W) (hb : Below W.heap.size W W') :
    W'.cell? p1 = some v1 ∧ W'.cell? p2 = some v2 ∧ W'.cell? p3 = some v3 ∧ KB w ep x y vs ss B C W' := ⟨cell_since h.1 hb, cell_since h.2.1 hb, cell_since h.2.2.1 hb, h.2.2.2.later hb⟩

set_option maxRecDepth 100000 in
set_option maxHeartbeats 2000000 in
theorem specKeysFor_any {B C : Nat} {x y : Value} {vs : List Int} {ss : List (Int × Int)} {w : World} (ep m : Int) (hx : Ints B x vs w) (hy : Seats C y ss w) :
    Calls Try.prog 21 #[svv ep x y, .int .i64 m] w fun e w' => ∃ a c, e = .returned (.tuple #[.slice a (kfL ep vs ss m).length c, .bool (kfB ep vs ss m)]) ∧ Keys w.heap.size (.slice a (kfL ep vs ss m).length c) (kfL ep vs ss m) w' ∧ Below w.heap.size w w' := by
  have hB1 := one_below w (svb ep x y)
  obtain ⟨c0, c1, c2⟩ := scell3 w ep x y
  have X1 := hidOf' (hx.since hB1)
  have Y1 := hidOf' (hy.since hB1)
  clear hx hy
  go_enter Try.func21, Try.ntmps21
  go_wp2_with fail
  generalize w.alloc (svb ep x y) = w1 at *
  refine (specServerOk_any ep X1.out Y1.out).mono ?_
  rintro e w2 ⟨rfl, b2⟩
  have B2 := hidOf' (more hB1 b2)
  have d0 := cell_since c0 b2
  have d1 := cell_since c1 b2
  have d2 := cell_since c2 b2
  have X2 := hidOf' (X1.out.since b2)
  have Y2 := hidOf' (Y1.out.since b2)
  clear c0 c1 c2 X1 Y1 hB1 b2
  cases hok : serverB ep vs ss with
  | false =>
    have hb : kfB ep vs ss m = false := by simp [kfB, hok]
    have HA := hidOf' (And.intro hb (kf_not hb))
    clear hb
    go_wp2
    obtain ⟨h1, h2⟩ := HA.out
    rw [h1, h2]
    exact bodyPost_ret (v := .tuple #[.slice none 0 0, .bool false]) (by simp [results, Try.results21, go_sem]) rfl ⟨none, 0, rfl, none_keys _ _, B2.out⟩
  | true =>
    go_wp2_with fail
    refine (l3Leaf_any ep m Y2.out).mono ?_
    rintro e w3 ⟨rfl, b3⟩
    have B3 := hidOf' (more B2.out b3)
    have d0 := cell_since d0 b3
    have d1 := cell_since d1 b3
    have d2 := cell_since d2 b3
    have X3 := hidOf' (X2.out.since b3)
    have Y3 := hidOf' (Y2.out.since b3)
    clear X2 Y2 B2 b3
    cases hse : seatOf ss m with
    | none =>
      have hb : kfB ep vs ss m = false := by simp [kfB, hse]
      have HA := hidOf' (And.intro hb (kf_not hb))
      have hlv : leafV ss m = 0 := by unfold leafV; rw [hse]; rfl
      clear hb
      rw [hlv]
      clear hlv hse hok
      go_wp2
      obtain ⟨h1, h2⟩ := HA.out
      rw [h1, h2]
      exact bodyPost_ret (v := .tuple #[.slice none 0 0, .bool false]) (by simp [results, Try.results21, go_sem]) rfl ⟨none, 0, rfl, none_keys _ _, B3.out⟩
    | some lf =>
      have hb : kfB ep vs ss m = true := by simp [kfB, hok, hse]
      have hlv : leafV ss m = lf := by unfold leafV; rw [hse]; rfl
      have hlf := seatOf_leaf hok hse
      have HLen := hidOf' (serverB_len hok)
      have hkl : kfL ep vs ss m = (keysOn vs lf).reverse := by unfold kfL; rw [if_pos hb, hlv]
      have HA := hidOf' (And.intro hb hkl)
      have HK4 := hidOf' (show ((keysOn vs lf).reverse).length = 4 by rw [List.length_reverse, keysOn_len hlf])
      have HLv := hidOf' hlv
      have HLf := hidOf' hlf
      have hz : (lf == 0) = false := by simp; omega
      rw [hlv]
      clear hb hlv hse hok hkl
      have hP0 : w3.drew.cell? ⟨w.heap.size, 0, none⟩ = some (.int .i64 ep) ∧ w3.drew.cell? ⟨w.heap.size, 1, none⟩ = some x ∧ w3.drew.cell? ⟨w.heap.size, 2, none⟩ = some y ∧ KB w ep x y vs ss B C w3.drew := ⟨d0, d1, d2, X3.out, Y3.out, B3.out.drew⟩
      have HP0 := hidOf' hP0
      clear hP0
      go_wp2
      go_region_held3 (fun W => W.cell? ⟨w.heap.size, 0, none⟩ = some (.int .i64 ep) ∧ W.cell? ⟨w.heap.size, 1, none⟩ = some x ∧ W.cell? ⟨w.heap.size, 2, none⟩ = some y ∧ KB w ep x y vs ss B C W)
        (first | exact HP0.out | exact held3_later ‹_› b5 | exact held3_later ‹_› b4 | assumption)
        (first
          | (go_at_call 51; refine (l3Leaf_any ep m HP0.out.2.2.2.2.1).mono ?_; rintro e w4 ⟨rfl, b4⟩; rw [HLv.out])
          | (go_at_call 52; refine (l3Keys_any ep lf ((show Ints B x vs w3.drew from X3.out).since b4) HLf.out HLen.out).mono ?_; rintro e w5 ⟨a5, c5, rfl, k5, b5⟩; have hs4 := b4.size; have HK5 := hidOf' k5))
      all_goals
        rename_i hHeld
        have HBf := hidOf' hHeld.2.2.2.2.2
        have hs3 := B3.out.size
        have hs34 : w3.heap.size ≤ w4.heap.size := hs4
        clear hHeld k5 b5 b4 hs4
        go_wp2
        obtain ⟨h1, h2⟩ := HA.out
        rw [h1, h2, HK4.out]
        exact bodyPost_ret (v := .tuple #[.slice a5 4 c5, .bool true]) (by simp [results, Try.results21, go_sem]) rfl ⟨a5, c5, rfl, HK5.out.mono (by omega), HBf.out⟩
end Go.Proofs.Ytplinjepeahahaa
