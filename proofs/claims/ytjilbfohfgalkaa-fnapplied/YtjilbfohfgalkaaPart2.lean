/- KeysFor of the model. -/
import Derived.Test.YtjilbfohfgalkaaPart1
import Derived.Deep.RegionHeld3
import Derived.Deep.AppendLies
import Derived.Test.YtjilbfohfgalkaaPart0
import Derived.Laws.AppendOwn
namespace Go.Proofs.Ytjilbfohfgalkaa
open Go.RowKit

theorem step_append_k {P : Program} (w : World) {ops : Array Oper} {o : Oper} {a : Act} {K : Act → World → Prop} {Q : Exit → Act → World → Prop} {E : Prop} (hw : Region.wanted o (yielded ops a.tmps) = true) (s x : Operand) (t : TypeId)
    (ho : o.op = .call { callee := .builtin .append, args := #[s, x], argTypes := #[t, t] })
    (base : Nat) (e : TypeId) (i : TypeInfo) (z : Value) (size bytes : Nat) (ht : P.underlying t = some (.slice e)) (hi : P.info? e = some i) (hz : i.zero = some z)
    (hsize : i.size = size) (hby : i.bytes = bytes) (hzs : z.cells.size = size) (hsz : 0 < size)
    (v : Value) (n : Nat) (xs : List Value) (hs : a.eval s = v) (hown : w.ownsRow base e size v n xs)
    (ad : Addr) (m c : Nat) (news : List Value) (hx : a.eval x = .slice (some ad) m c) (hl : news.length = m * size) (hnews : ∀ j u, news[j]? = some u → w.cell? (ad.add j) = some u) (h1 : ∀ u ∈ news, u.oneCell' = true)
    (hm : 0 < m) (h63 : n + m ≤ maxLen) (hbytes : (n + m) * bytes ≤ 140737488355328) (hbase : base ≤ w.heap.size) (H : Nat) (hH : w.heap.size = H)
    (h : ∀ g cap w', w'.ownsRow base e size (.slice (some ⟨g, 0, none⟩) (n + m) cap) (n + m) (xs ++ news) → w.grownBy w' v.ownBlock → (v.ownBlock = some g ∨ g = H) → g < w'.heap.size → K (a.put o.dst (.slice (some ⟨g, 0, none⟩) (n + m) cap)) w') :
    if Region.wanted o (yielded ops a.tmps) = true then Oper.wp P o a w K Q else E := by
  rw [if_pos hw]
  exact wp_append_lies w s x t ho base e i z size bytes ht hi hz hsize hby hzs hsz v n xs hs hown ad m c news hx hl hnews h1 hm h63 hbytes hbase H hH h
theorem own_ik {B C : Nat} {v u : Value} {xs : List Int} {ys : List (Int × Int)} {W : World} (h : Ints B v xs W) (h' : Keys C u ys W) : ∀ j, u.ownBlock = some j → v.ownBlock ≠ some j := by
  intro j e' e
  rcases h.2 with ⟨rfl, _⟩ | ⟨g, cap, cur, rfl, _, hg, _⟩
  · cases e
  · rcases h'.2 with ⟨rfl, _⟩ | ⟨g', cap', cur', rfl, _, hg', _⟩
    · cases e'
    · simp [Value.ownBlock] at e e'
      subst e e'
      have := hg.symm.trans hg'
      simp at this
/-- What the round's region keeps. -/
def KRest (w : World) (box : Obj) (vp : Value) (ps : List Int) (W : World) : Prop := Ints (w.heap.size + 1 + 1) vp ps W ∧ W.heap[w.heap.size]? = some box ∧ Below w.heap.size w W ∧ w.heap.size + 1 + 1 ≤ W.heap.size
theorem KRest.later {w W W' : World} {box : Obj} {vp : Value} {ps : List Int} (h : KRest w box vp ps W) (hb : Below W.heap.size W W') : KRest w box vp ps W' :=
  ⟨h.1.since hb, (hb.block _ (by have := h.2.2.2; omega)).trans h.2.1, h.2.2.1.trans (hb.mono h.2.2.1.size), by have := hb.size; have := h.2.2.2; omega⟩
theorem KRest.grown {w W W' : World} {box : Obj} {vp : Value} {ps : List Int} {row : Option Nat} (h : KRest w box vp ps W) (hg : W.grownBy W' row) (hr : ∀ k, row = some k → w.heap.size + 1 ≤ k ∧ vp.ownBlock ≠ some k) : KRest w box vp ps W' :=
  ⟨h.1.kept hg (fun k e => (hr k e).2), (hg.block _ (by have := h.2.2.2; omega) (fun e => by have := (hr _ e.symm).1; omega)).trans h.2.1, h.2.2.1.grown hg h.2.2.1.size (fun k e => by have := (hr k e).1; omega), by have := hg.size; have := h.2.2.2; omega⟩
theorem held4_later {w W W' : World} {box : Obj} {vp : Value} {ps : List Int} {p1 p2 p3 p4 : Addr} {v1 v2 v3 v4 : Value} (h : W.cell? p1 = some v1 ∧ W.cell? p2 = some v2 ∧ W.cell? p3 = some v3 ∧ W.cell? p4 = some v4 ∧ KRest w box vp ps W) (hb : Below W.heap.size W W') :
    W'.cell? p1 = some v1 ∧ W'.cell? p2 = some v2 ∧ W'.cell? p3 = some v3 ∧ W'.cell? p4 = some v4 ∧ KRest w box vp ps W' := ⟨cell_since h.1 hb, cell_since h.2.1 hb, cell_since h.2.2.1 hb, cell_since h.2.2.2.1 hb, h.2.2.2.2.later hb⟩
theorem held4_grown {w W W' : World} {box : Obj} {vp : Value} {ps : List Int} {p1 p2 p3 p4 : Addr} {v1 v2 v3 v4 : Value} {row : Option Nat} (h : W.cell? p1 = some v1 ∧ W.cell? p2 = some v2 ∧ W.cell? p3 = some v3 ∧ W.cell? p4 = some v4 ∧ KRest w box vp ps W) (hg : W.grownBy W' row)
    (hr : ∀ k, row = some k → w.heap.size + 1 ≤ k ∧ vp.ownBlock ≠ some k) (b1 : p1.block = w.heap.size) (b2 : p2.block = w.heap.size) (b3 : p3.block = w.heap.size) (b4 : vp.ownBlock = some p4.block) :
    W'.cell? p1 = some v1 ∧ W'.cell? p2 = some v2 ∧ W'.cell? p3 = some v3 ∧ W'.cell? p4 = some v4 ∧ KRest w box vp ps W' :=
  ⟨hg.cell h.1 (fun e => by have := (hr _ e.symm).1; omega), hg.cell h.2.1 (fun e => by have := (hr _ e.symm).1; omega), hg.cell h.2.2.1 (fun e => by have := (hr _ e.symm).1; omega), hg.cell h.2.2.2.1 (fun e => (hr _ e.symm).2 b4), h.2.2.2.2.grown hg hr⟩
theorem keys_own {W : World} {B n : Nat} {v : Value} {xs : List (Int × Int)} (h : Keys B v xs W) (hn : xs.length = n) (o : Obj) : (W.alloc o).ownsRow B 36 2 v n (kcells xs) := by
  subst hn
  exact World.ownsRow.alloc h o
theorem keys_of {W : World} {B g N c : Nat} {ys : List Value} {xs : List (Int × Int)} (h : W.ownsRow B 36 2 (.slice (some ⟨g, 0, none⟩) N c) N ys) (e : ys = kcells xs) (hn : xs.length = N) : Keys B (.slice (some ⟨g, 0, none⟩) N c) xs W := by
  subst e hn
  exact h
theorem drop_rev2 (ws : List (Int × Int)) (j : Nat) (h : j < ws.length) : (ws.drop j).reverse = (ws.drop (j + 1)).reverse ++ [ws[j]] := by
  rw [List.drop_eq_getElem_cons h, List.reverse_cons]
theorem empty_keys (W : World) {S : Nat} (h : W.heap.size = S) : Keys S (.slice (some ⟨S, 0, none⟩) 0 0) [] (W.alloc (.cells #[] 36)) := by
  subst h
  exact World.ownsRow_lit (base := W.heap.size) (size := 2) W #[] 0 (Nat.le_refl _) (by decide) rfl

set_option maxRecDepth 100000 in
set_option maxHeartbeats 4000000 in
theorem l3Keys_any {B : Nat} {x y : Value} {vs : List Int} {w : World} (ep lf : Int) (hx : Ints B x vs w) (hlf : 8 ≤ lf ∧ lf ≤ 15) (hlen : vs.length = 15) :
    Calls Try.prog 33 #[svv ep x y, .int .i64 lf] w fun e w' => ∃ a c, e = .returned (.slice a 4 c) ∧ Keys w.heap.size (.slice a 4 c) (keysOn vs lf).reverse w' ∧ Below w.heap.size w w' := by
  obtain ⟨i0, hi, hz0, hz1, hz2⟩ := info_parts infoK
  have HLen := hidOf' hlen
  have HX := hidOf' hx
  have hB1 := two_below w (svb ep x y) (.cells #[] 36)
  have t0 : ((w.alloc (svb ep x y)).alloc (.cells #[] 36)).heap[w.heap.size]? = some (svb ep x y) := by
    rw [Below.heap_alloc _ _ _ (by simp)]
    exact heap_alloc_new _ _
  have E1 := hidOf' (empty_keys (w.alloc (svb ep x y)) (S := w.heap.size + 1) (by simp))
  have hs1 : ((w.alloc (svb ep x y)).alloc (.cells #[] 36)).heap.size = w.heap.size + 1 + 1 := by simp
  obtain ⟨hp4, hpr⟩ := path_four hlf.1 hlf.2
  have HPR := hidOf' hpr
  have HK4 := hidOf' (keysOn_len (vs := vs) hlf)
  clear hpr hlen hx
  go_enter Try.func33, Try.ntmps33
  go_wp2_with fail
  generalize (w.alloc (svb ep x y)).alloc (.cells #[] 36) = w1 at *
  refine (specPathOf_any lf _).mono ?_
  rintro e w2 ⟨vp, rfl, p2, b2⟩
  obtain ⟨ap, cp, hvp, _, hprow⟩ := p2.row
  rw [hp4] at hvp
  obtain ⟨g, ha⟩ : ∃ g, ap = some ⟨g, 0, none⟩ := by
    rcases hprow with e | ⟨g, e, _⟩
    · rw [e] at hp4; simp at hp4
    · exact ⟨g, e⟩
  subst ha
  subst hvp
  have E2 := hidOf' (keys_since E1.out b2)
  have hR2 : KRest w (svb ep x y) (.slice (some ⟨g, 0, none⟩) 4 cp) (path lf) w2 := ⟨by rw [← hs1]; exact p2, (b2.block _ (by omega)).trans t0, more hB1 b2, by have := b2.size; omega⟩
  have HR2 := hidOf' hR2
  clear hR2 p2 b2 t0 hB1 E1 hprow
  go_wp2
  go_loopw [5, 7] (fun ov i wr => ∃ (k r : Nat) (a : Option Addr) (c : Nat), ov = .slice a r c ∧ i = .int .i64 ((k : Int) - 1) ∧ r + k = 4 ∧ Hid (Keys (w.heap.size + 1) (.slice a r c) ((keysOn vs lf).drop k).reverse wr) ∧ Hid (KRest w (svb ep x y) (.slice (some ⟨g, 0, none⟩) 4 cp) (path lf) wr)) (fun _ i _ => ((intOf i) + 1).toNat)
  case atStart => exact ⟨4, 0, _, _, rfl, rfl, by omega, (by show Keys _ _ _ _; rw [List.drop_of_length_le (by rw [HK4.out]; exact Nat.le_refl _)]; exact E2.out), HR2.out⟩
  case round =>
    obtain ⟨k, r, a, c, rfl, rfl, hk, HKs, HR⟩ := hrel
    clear E2 HR2
    cases k with
    | zero =>
      obtain rfl : r = 4 := by omega
      have HKf := hidOf' (show Keys w.heap.size (.slice a 4 c) (keysOn vs lf).reverse wr from by have := HKs.out; simpa using this.mono (show w.heap.size ≤ w.heap.size + 1 by omega))
      have HBf := hidOf' HR.out.2.2.1
      clear HKs HR
      go_wp2
      go_ret
      exact ⟨a, c, rfl, HKf.out, HBf.out⟩
    | succ j =>
      have hcast : ((j + 1 : Nat) : Int) - 1 = (j : Int) := by omega
      rw [hcast]
      have hj4 : (j : Int) < 4 := by omega
      have hjp : j < (path lf).length := by omega
      have hjk : j < (keysOn vs lf).length := by rw [HK4.out]; omega
      have hbn := HPR.out j hjp
      have HT := hidOf' (drop_rev2 (keysOn vs lf) j hjk)
      have hkj : (keysOn vs lf)[j] = ((path lf)[j], vAt vs ((path lf)[j].toNat - 1)) := by simp [keysOn]
      rw [hkj] at HT
      clear hkj
      have e1 : wr.cell? ⟨g, j, none⟩ = some (.int .i64 (path lf)[j]) := by
        rcases HR.out.1.form with ⟨e, _⟩ | ⟨g', cap', e, _, _, _, _, h3⟩
        · cases e
        · injection e with e; injection e with e; injection e with e; subst e
          exact (h3 j hjp).1
      obtain ⟨nd, hnd⟩ : ∃ nd : Nat, (path lf)[j] = (nd : Int) + 1 := ⟨((path lf)[j] - 1).toNat, by omega⟩
      rw [hnd] at e1 HT hbn
      have hn15 : nd < 15 := by omega
      have hnt : ((nd : Int) + 1).toNat - 1 = nd := by omega
      rw [hnt] at HT
      clear hnd hnt
      obtain ⟨⟨q0, q1, q2⟩, _, _, _⟩ := box3 HR.out.2.1
      have hX : Ints B x vs wr.drew := HX.out.below (HR.out.2.2.1.drew) (fun k e => (HX.out.lt k e).2)
      have HX5 := hidOf' hX
      have hrl : ((keysOn vs lf).drop (j + 1)).reverse.length = r := by rw [List.length_reverse, List.length_drop, HK4.out]; omega
      have hne : ∀ jj, (Value.slice a (r) c).ownBlock = some jj → w.heap.size + 1 ≤ jj ∧ (Value.slice (some ⟨g, 0, none⟩) 4 cp).ownBlock ≠ some jj := fun jj e => ⟨(HKs.out.lt jj e).1, own_ik HR.out.1 HKs.out jj e⟩
      have hP0 : wr.drew.cell? ⟨w.heap.size, 0, none⟩ = some (.int .i64 ep) ∧ wr.drew.cell? ⟨w.heap.size, 1, none⟩ = some x ∧ wr.drew.cell? ⟨w.heap.size, 2, none⟩ = some y ∧ wr.drew.cell? ⟨g, j, none⟩ = some (.int .i64 ((nd : Int) + 1)) ∧ KRest w (svb ep x y) (.slice (some ⟨g, 0, none⟩) 4 cp) (path lf) wr.drew := ⟨q0, q1, q2, e1, HR.out.later (Below.refl _ _).drew⟩
      have HP0 := hidOf' hP0
      have hszr := HR.out.2.2.2
      clear hX hP0
      generalize hvj : vAt vs nd = vj at *
      go_wp2
      go_region_held3 (fun W => W.cell? ⟨w.heap.size, 0, none⟩ = some (.int .i64 ep) ∧ W.cell? ⟨w.heap.size, 1, none⟩ = some x ∧ W.cell? ⟨w.heap.size, 2, none⟩ = some y ∧ W.cell? ⟨g, j, none⟩ = some (.int .i64 ((nd : Int) + 1)) ∧ KRest w (svb ep x y) (.slice (some ⟨g, 0, none⟩) 4 cp) (path lf) W)
        (first | exact HP0.out | exact held4_later ‹_› b5 | exact held4_later ‹_› (one_below _ _) | exact held4_grown ‹_› hgB hne rfl rfl rfl rfl | assumption)
        (first
          | (go_at_call 59; refine (l3Key_any ep nd hn15 HLen.out HX5.out).mono ?_; rintro e w5 ⟨rfl, b5⟩; rw [hvj]; have hs5 := b5.size; have hs5' : wr.heap.size ≤ w5.heap.size := hs5)
          | (refine step_append_k _ (by rfl) _ _ _ (by rfl) (w.heap.size + 1) 36 i0 (.agg #[.int .i64 0, .int .i64 0]) 2 16 Try.underlying24 hi hz0 hz1 hz2 rfl (by omega) (.slice a (r) c) (r) _ (by rfl) (by exact keys_own (keys_since (show Keys _ _ _ wr.drew from HKs.out) b5) hrl _) ⟨w5.heap.size, 0, none⟩ 1 _ [.int .i64 ((nd : Int) + 1), .int .i64 vj] (by rfl) (by rfl) (by exact cell_key _ _ _) (by simp [Value.oneCell']) (by omega) (by unfold maxLen; omega) (by omega) (by simp <;> omega) _ rfl ?_; intro gB cB wB hownB hgB hatB hltB))
      all_goals
        rename_i hHeld
        have HRf := hidOf' hHeld.2.2.2.2
        have HKn := hidOf' (keys_of (xs := ((keysOn vs lf).drop (j + 1)).reverse ++ [((nd : Int) + 1, vj)]) hownB (by rw [kcells_append]; rfl) (by rw [List.length_append, hrl]; rfl))
        clear hHeld hownB hgB b5 HP0 HX5 HKs HR
        go_wp2
        go_roundw
        case rel => exact ⟨j, r + 1, some ⟨gB, 0, none⟩, cB, rfl, by go_num, by omega, (by show Keys _ _ _ _; rw [HT.out]; exact HKn.out), HRf.out⟩
        case measure => simp [intOf] <;> omega

def KB (w : World) (_ep : Int) (x y : Value) (vs : List Int) (ss : List (Int × Int)) (B C : Nat) (W : World) : Prop := Ints B x vs W ∧ Seats C y ss W ∧ Below w.heap.size w W
theorem KB.later {w W W' : World} {ep : Int} {x y : Value} {vs : List Int} {ss : List (Int × Int)} {B C : Nat} (h : KB w ep x y vs ss B C W) (hb : Below W.heap.size W W') : KB w ep x y vs ss B C W' := ⟨h.1.since hb, h.2.1.since hb, h.2.2.trans (hb.mono h.2.2.size)⟩
theorem held3_later {w W W' : World} {ep : Int} {x y : Value} {vs : List Int} {ss : List (Int × Int)} {B C : Nat} {p1 p2 p3 : Addr} {v1 v2 v3 : Value} (h : W.cell? p1 = some v1 ∧ W.cell? p2 = some v2 ∧ W.cell? p3 = some v3 ∧ KB w ep x y vs ss B C W) (hb : Below W.heap.size W W') :
    W'.cell? p1 = some v1 ∧ W'.cell? p2 = some v2 ∧ W'.cell? p3 = some v3 ∧ KB w ep x y vs ss B C W' := ⟨cell_since h.1 hb, cell_since h.2.1 hb, cell_since h.2.2.1 hb, h.2.2.2.later hb⟩

set_option maxRecDepth 100000 in
set_option maxHeartbeats 2000000 in
theorem specKeysFor_any {B C : Nat} {x y : Value} {vs : List Int} {ss : List (Int × Int)} {w : World} (ep m : Int) (hx : Ints B x vs w) (hy : Seats C y ss w) :
    Calls Try.prog 41 #[svv ep x y, .int .i64 m] w fun e w' => ∃ a c, e = .returned (.tuple #[.slice a (kfL ep vs ss m).length c, .bool (kfB ep vs ss m)]) ∧ Keys w.heap.size (.slice a (kfL ep vs ss m).length c) (kfL ep vs ss m) w' ∧ Below w.heap.size w w' := by
  have hB1 := one_below w (svb ep x y)
  obtain ⟨c0, c1, c2⟩ := scell3 w ep x y
  have X1 := hidOf' (hx.since hB1)
  have Y1 := hidOf' (hy.since hB1)
  clear hx hy
  go_enter Try.func41, Try.ntmps41
  go_wp2_with fail
  generalize w.alloc (svb ep x y) = w1 at *
  refine (specServerOk_any ep X1.out Y1.out).mono ?_
  rintro e w2 ⟨rfl, b2⟩
  have B2 := hidOf' (more hB1 b2)
  have d0 := cell_since c0 b2
  have d1 := cell_since c1 b2
  have d2 := cell_since c2 b2
  have X2 := hidOf' (X1.out.since b2)
  have Y2 := hidOf' (Y1.out.since b2)
  clear c0 c1 c2 X1 Y1 hB1 b2
  cases hok : serverB ep vs ss with
  | false =>
    have hb : kfB ep vs ss m = false := by simp [kfB, hok]
    have HA := hidOf' (And.intro hb (kf_not hb))
    clear hb
    go_wp2
    obtain ⟨h1, h2⟩ := HA.out
    rw [h1, h2]
    exact bodyPost_ret (v := .tuple #[.slice none 0 0, .bool false]) (by simp [results, Try.results41, go_sem]) rfl ⟨none, 0, rfl, none_keys _ _, B2.out⟩
  | true =>
    go_wp2_with fail
    refine (l3Leaf_any ep m Y2.out).mono ?_
    rintro e w3 ⟨rfl, b3⟩
    have B3 := hidOf' (more B2.out b3)
    have d0 := cell_since d0 b3
    have d1 := cell_since d1 b3
    have d2 := cell_since d2 b3
    have X3 := hidOf' (X2.out.since b3)
    have Y3 := hidOf' (Y2.out.since b3)
    clear X2 Y2 B2 b3
    cases hse : seatOf ss m with
    | none =>
      have hb : kfB ep vs ss m = false := by simp [kfB, hse]
      have HA := hidOf' (And.intro hb (kf_not hb))
      have hlv : leafV ss m = 0 := by unfold leafV; rw [hse]; rfl
      clear hb
      rw [hlv]
      clear hlv hse hok
      go_wp2
      obtain ⟨h1, h2⟩ := HA.out
      rw [h1, h2]
      exact bodyPost_ret (v := .tuple #[.slice none 0 0, .bool false]) (by simp [results, Try.results41, go_sem]) rfl ⟨none, 0, rfl, none_keys _ _, B3.out⟩
    | some lf =>
      have hb : kfB ep vs ss m = true := by simp [kfB, hok, hse]
      have hlv : leafV ss m = lf := by unfold leafV; rw [hse]; rfl
      have hlf := seatOf_leaf hok hse
      have HLen := hidOf' (serverB_len hok)
      have hkl : kfL ep vs ss m = (keysOn vs lf).reverse := by unfold kfL; rw [if_pos hb, hlv]
      have HA := hidOf' (And.intro hb hkl)
      have HK4 := hidOf' (show ((keysOn vs lf).reverse).length = 4 by rw [List.length_reverse, keysOn_len hlf])
      have HLv := hidOf' hlv
      have HLf := hidOf' hlf
      have hz : (lf == 0) = false := by simp; omega
      rw [hlv]
      clear hb hlv hse hok hkl
      have hP0 : w3.drew.cell? ⟨w.heap.size, 0, none⟩ = some (.int .i64 ep) ∧ w3.drew.cell? ⟨w.heap.size, 1, none⟩ = some x ∧ w3.drew.cell? ⟨w.heap.size, 2, none⟩ = some y ∧ KB w ep x y vs ss B C w3.drew := ⟨d0, d1, d2, X3.out, Y3.out, B3.out.drew⟩
      have HP0 := hidOf' hP0
      clear hP0
      go_wp2
      go_region_held3 (fun W => W.cell? ⟨w.heap.size, 0, none⟩ = some (.int .i64 ep) ∧ W.cell? ⟨w.heap.size, 1, none⟩ = some x ∧ W.cell? ⟨w.heap.size, 2, none⟩ = some y ∧ KB w ep x y vs ss B C W)
        (first | exact HP0.out | exact held3_later ‹_› b5 | exact held3_later ‹_› b4 | assumption)
        (first
          | (go_at_call 32; refine (l3Leaf_any ep m HP0.out.2.2.2.2.1).mono ?_; rintro e w4 ⟨rfl, b4⟩; rw [HLv.out])
          | (go_at_call 33; refine (l3Keys_any ep lf ((show Ints B x vs w3.drew from X3.out).since b4) HLf.out HLen.out).mono ?_; rintro e w5 ⟨a5, c5, rfl, k5, b5⟩; have hs4 := b4.size; have HK5 := hidOf' k5))
      all_goals
        rename_i hHeld
        have HBf := hidOf' hHeld.2.2.2.2.2
        have hs3 := B3.out.size
        have hs34 : w3.heap.size ≤ w4.heap.size := hs4
        clear hHeld k5 b5 b4 hs4
        go_wp2
        obtain ⟨h1, h2⟩ := HA.out
        rw [h1, h2, HK4.out]
        exact bodyPost_ret (v := .tuple #[.slice a5 4 c5, .bool true]) (by simp [results, Try.results41, go_sem]) rfl ⟨a5, c5, rfl, HK5.out.mono (by omega), HBf.out⟩
end Go.Proofs.Ytjilbfohfgalkaa
/- What is known of a world while a law is walked, in one bundle: nothing that was there has turned, cells hold what they hold, rows of the call's own lie apart from one another. -/
namespace Go.Proofs.Ytjilbfohfgalkaa
open Go.RowKit

/-- A row of the call's own. -/
structure RowF where
  B : Nat
  t : TypeId
  sz : Nat
  v : Value
  n : Nat
  xs : List Value
/-- It lies in this world. -/
def RowF.on (r : RowF) (W : World) : Prop := W.ownsRow r.B r.t r.sz r.v r.n r.xs

/-- The bundle. -/
structure Kit (w0 : World) (cs : List (Addr × Value)) (rs : List RowF) (W : World) : Prop where
  bel : Below w0.heap.size w0 W
  cell : ∀ p, p ∈ cs → W.cell? p.1 = some p.2
  row : ∀ r, r ∈ rs → r.on W
  fresh : ∀ r, r ∈ rs → w0.heap.size ≤ r.B
  apart : rs.Pairwise fun r s => ∀ k, r.v.ownBlock = some k → s.v.ownBlock ≠ some k
  off : ∀ p, p ∈ cs → ∀ r, r ∈ rs → r.v.ownBlock ≠ some p.1.block

theorem RowF.lt {r : RowF} {W : World} (h : r.on W) : ∀ k, r.v.ownBlock = some k → r.B ≤ k ∧ k < W.heap.size := World.ownsRow.lt h
theorem RowF.since {r : RowF} {W W' : World} (h : r.on W) (hb : Below W.heap.size W W') : r.on W' := by
  refine ⟨h.1, ?_⟩
  rcases h.2 with hn | ⟨g, cap, cur, e, hb', hg, rest⟩
  · exact .inl hn
  · refine .inr ⟨g, cap, cur, e, hb', ?_, rest⟩
    rw [hb.block g (Array.getElem?_eq_some_iff.1 hg).1]
    exact hg
theorem RowF.kept {r : RowF} {W W' : World} {row : Option Nat} (h : r.on W) (hg : W.grownBy W' row) (hne : ∀ k, row = some k → r.v.ownBlock ≠ some k) : r.on W' := by
  refine World.ownsRow.kept h hg ?_
  cases row with
  | none => cases e : r.v.ownBlock <;> simp
  | some k => exact .inr (hne k rfl)

theorem Kit.start {w0 W : World} {cs : List (Addr × Value)} (hb : Below w0.heap.size w0 W) (hc : ∀ p, p ∈ cs → W.cell? p.1 = some p.2) : Kit w0 cs [] W :=
  ⟨hb, hc, (fun _ h => (by cases h)), (fun _ h => (by cases h)), .nil, fun _ _ _ h => (by cases h)⟩
theorem Kit.since {w0 W W' : World} {cs : List (Addr × Value)} {rs : List RowF} (K : Kit w0 cs rs W) (hb : Below W.heap.size W W') : Kit w0 cs rs W' :=
  ⟨K.bel.trans (hb.mono K.bel.size), fun p h => cell_since (K.cell p h) hb, fun r h => RowF.since (K.row r h) hb, K.fresh, K.apart, K.off⟩
theorem Kit.drew {w0 W : World} {cs : List (Addr × Value)} {rs : List RowF} (K : Kit w0 cs rs W) : Kit w0 cs rs W.drew := K.since (Below.refl _ _).drew
theorem Kit.drewN {w0 W : World} {cs : List (Addr × Value)} {rs : List RowF} (K : Kit w0 cs rs W) (n : Nat) : Kit w0 cs rs (W.drewN n) := K.since ⟨rfl, rfl, rfl, Nat.le_refl _, fun _ _ => rfl⟩
/-- Fewer. -/
theorem Kit.sub {w0 W : World} {cs cs' : List (Addr × Value)} {rs rs' : List RowF} (K : Kit w0 cs rs W) (hc : ∀ p, p ∈ cs' → p ∈ cs) (hr : rs'.Sublist rs) : Kit w0 cs' rs' W :=
  ⟨K.bel, fun p h => K.cell p (hc p h), fun r h => K.row r (hr.subset h), fun r h => K.fresh r (hr.subset h), K.apart.sublist hr, fun p h r h' => K.off p (hc p h) r (hr.subset h')⟩
/-- A new row. -/
theorem Kit.add {w0 W W' : World} {cs : List (Addr × Value)} {rs : List RowF} {r : RowF} (K : Kit w0 cs rs W) (hb : Below W.heap.size W W') (h : r.on W') (hB : W.heap.size ≤ r.B) : Kit w0 cs (r :: rs) W' := by
  have K' := K.since hb
  refine ⟨K'.bel, K'.cell, ?_, ?_, ?_, ?_⟩
  · intro s hs
    rcases List.mem_cons.1 hs with rfl | hs
    · exact h
    · exact K'.row s hs
  · intro s hs
    rcases List.mem_cons.1 hs with rfl | hs
    · exact Nat.le_trans K.bel.size hB
    · exact K'.fresh s hs
  · refine List.pairwise_cons.2 ⟨fun s hs k e e' => ?_, K'.apart⟩
    have h1 := (h.lt k e).1
    have h2 := ((K.row s hs).lt k e').2
    omega
  · intro p hp s hs e
    rcases List.mem_cons.1 hs with rfl | hs
    · have h1 := (h.lt _ e).1
      have h2 := World.block_lt_of_cell? W p.1 (K.cell p hp)
      omega
    · exact K'.off p hp s hs e
/-- Two new rows of one call. -/
theorem Kit.add2 {w0 W W' : World} {cs : List (Addr × Value)} {rs : List RowF} {r s : RowF} (K : Kit w0 cs rs W) (hb : Below W.heap.size W W') (h : r.on W') (h' : s.on W') (hB : W.heap.size ≤ r.B) (hB' : W.heap.size ≤ s.B)
    (hd : ∀ k, r.v.ownBlock = some k → s.v.ownBlock ≠ some k) : Kit w0 cs (r :: s :: rs) W' := by
  have K1 := K.add hb h' hB'
  have K2 := K.add hb h hB
  refine ⟨K1.bel, K1.cell, ?_, ?_, ?_, ?_⟩
  · intro x hx
    rcases List.mem_cons.1 hx with rfl | hx
    · exact h
    · exact K1.row x hx
  · intro x hx
    rcases List.mem_cons.1 hx with rfl | hx
    · exact K2.fresh _ (.head _)
    · exact K1.fresh x hx
  · refine List.pairwise_cons.2 ⟨fun x hx => ?_, K1.apart⟩
    rcases List.mem_cons.1 hx with rfl | hx
    · exact hd
    · exact (List.pairwise_cons.1 K2.apart).1 x hx
  · intro p hp x hx
    rcases List.mem_cons.1 hx with rfl | hx
    · exact K2.off p hp _ (.head _)
    · exact K1.off p hp x hx
/-- New cells, at or beyond the world's end. -/
theorem Kit.cells {w0 W W' : World} {cs ds : List (Addr × Value)} {rs : List RowF} (K : Kit w0 cs rs W) (hb : Below W.heap.size W W') (hc : ∀ p, p ∈ ds → W'.cell? p.1 = some p.2) (hn : ∀ p, p ∈ ds → W.heap.size ≤ p.1.block) : Kit w0 (ds ++ cs) rs W' := by
  have K' := K.since hb
  refine ⟨K'.bel, ?_, K'.row, K'.fresh, K'.apart, ?_⟩
  · intro p hp
    rcases List.mem_append.1 hp with h | h
    · exact hc p h
    · exact K'.cell p h
  · intro p hp r hr e
    rcases List.mem_append.1 hp with h | h
    · have h1 := hn p h
      have h2 := ((K.row r hr).lt _ e).2
      omega
    · exact K'.off p h r hr e
/-- A row written over. -/
theorem Kit.mark {w0 W W' : World} {cs : List (Addr × Value)} {pre post : List RowF} {r r' : RowF} (K : Kit w0 cs (pre ++ r :: post) W) (hg : W.grownBy W' r.v.ownBlock) (h : r'.on W') (hv : r'.v = r.v) (hB : r'.B = r.B) : Kit w0 cs (pre ++ r' :: post) W' := by
  have hmem : ∀ s, s ∈ pre ++ r' :: post → s = r' ∨ (s ∈ pre ∨ s ∈ post) := fun s hs => by
    rcases List.mem_append.1 hs with hs | hs
    · exact .inr (.inl hs)
    · rcases List.mem_cons.1 hs with hs | hs
      · exact .inl hs
      · exact .inr (.inr hs)
  have hin : ∀ s, (s ∈ pre ∨ s ∈ post) → s ∈ pre ++ r :: post := fun s hs => by
    rcases hs with hs | hs
    · exact List.mem_append_left _ hs
    · exact List.mem_append_right _ (.tail _ hs)
  have hmid : r ∈ pre ++ r :: post := List.mem_append_right _ (.head _)
  have hap := List.pairwise_append.1 K.apart
  have hap2 := List.pairwise_cons.1 hap.2.1
  have hdis : ∀ s, (s ∈ pre ∨ s ∈ post) → ∀ k, r.v.ownBlock = some k → s.v.ownBlock ≠ some k := fun s hs k e e' => by
    rcases hs with hs | hs
    · exact hap.2.2 s hs r (.head _) k e' e
    · exact hap2.1 s hs k e e'
  refine ⟨K.bel.grown hg K.bel.size (fun k e => Nat.le_trans (K.fresh r hmid) ((K.row r hmid).lt k e).1), ?_, ?_, ?_, ?_, ?_⟩
  · exact fun p hp => hg.cell (K.cell p hp) (fun e => K.off p hp r hmid e.symm)
  · intro s hs
    rcases hmem s hs with rfl | hs
    · exact h
    · exact RowF.kept (K.row s (hin s hs)) hg (hdis s hs)
  · intro s hs
    rcases hmem s hs with rfl | hs
    · rw [hB]
      exact K.fresh r hmid
    · exact K.fresh s (hin s hs)
  · refine List.pairwise_append.2 ⟨hap.1, List.pairwise_cons.2 ⟨fun s hs => by rw [hv]; exact hap2.1 s hs, hap2.2⟩, fun s hs x hx => ?_⟩
    rcases List.mem_cons.1 hx with rfl | hx
    · rw [hv]
      exact hap.2.2 s hs r (.head _)
    · exact hap.2.2 s hs x (.tail _ hx)
  · intro p hp s hs
    rcases hmem s hs with rfl | hs
    · rw [hv]
      exact K.off p hp r hmid
    · exact K.off p hp s (hin s hs)
/-- A row that is let go, and written over. -/
theorem Kit.lose {w0 W W' : World} {cs : List (Addr × Value)} {rs : List RowF} {r : RowF} (K : Kit w0 cs (r :: rs) W) (hg : W.grownBy W' r.v.ownBlock) : Kit w0 cs rs W' := by
  have hap := List.pairwise_cons.1 K.apart
  refine ⟨K.bel.grown hg K.bel.size (fun k e => Nat.le_trans (K.fresh r (.head _)) ((K.row r (.head _)).lt k e).1), ?_, ?_, fun s hs => K.fresh s (.tail _ hs), hap.2, fun p hp s hs => K.off p hp s (.tail _ hs)⟩
  · exact fun p hp => hg.cell (K.cell p hp) (fun e => K.off p hp r (.head _) e.symm)
  · exact fun s hs => RowF.kept (K.row s (.tail _ hs)) hg (fun k e e' => hap.1 s hs k e e')
/-- The row at a place comes first. -/
theorem Kit.front {w0 W : World} {cs : List (Addr × Value)} {pre post : List RowF} {r : RowF} (K : Kit w0 cs (pre ++ r :: post) W) : Kit w0 cs (r :: (pre ++ post)) W := by
  have hap := List.pairwise_append.1 K.apart
  have hap2 := List.pairwise_cons.1 hap.2.1
  have hin : ∀ s, s ∈ r :: (pre ++ post) → s ∈ pre ++ r :: post := fun s hs => by
    rcases List.mem_cons.1 hs with rfl | hs
    · exact List.mem_append_right _ (.head _)
    · rcases List.mem_append.1 hs with hs | hs
      · exact List.mem_append_left _ hs
      · exact List.mem_append_right _ (.tail _ hs)
  refine ⟨K.bel, K.cell, fun s hs => K.row s (hin s hs), fun s hs => K.fresh s (hin s hs), List.pairwise_cons.2 ⟨fun s hs k e e' => ?_, List.pairwise_append.2 ⟨hap.1, hap2.2, fun s hs x hx => hap.2.2 s hs x (.tail _ hx)⟩⟩, fun p hp s hs => K.off p hp s (hin s hs)⟩
  rcases List.mem_append.1 hs with hs | hs
  · exact hap.2.2 s hs r (.head _) k e' e
  · exact hap2.1 s hs k e e'
end Go.Proofs.Ytjilbfohfgalkaa
/- The bundle's cells and rows by their places. -/
namespace Go.Proofs.Ytjilbfohfgalkaa
open Go.RowKit

theorem Kit.c0 {w0 W : World} {cs : List (Addr × Value)} {rs : List RowF} {a : Addr} {v : Value} (K : Kit w0 ((a, v) :: cs) rs W) : W.cell? a = some v := K.cell (a, v) (.head _)
theorem Kit.c1 {w0 W : World} {cs : List (Addr × Value)} {rs : List RowF} {x0 : Addr × Value} {a : Addr} {v : Value} (K : Kit w0 (x0 :: (a, v) :: cs) rs W) : W.cell? a = some v := K.cell (a, v) (.tail _ (.head _))
theorem Kit.c2 {w0 W : World} {cs : List (Addr × Value)} {rs : List RowF} {x0 x1 : Addr × Value} {a : Addr} {v : Value} (K : Kit w0 (x0 :: x1 :: (a, v) :: cs) rs W) : W.cell? a = some v := K.cell (a, v) (.tail _ (.tail _ (.head _)))
theorem Kit.c3 {w0 W : World} {cs : List (Addr × Value)} {rs : List RowF} {x0 x1 x2 : Addr × Value} {a : Addr} {v : Value} (K : Kit w0 (x0 :: x1 :: x2 :: (a, v) :: cs) rs W) : W.cell? a = some v := K.cell (a, v) (.tail _ (.tail _ (.tail _ (.head _))))
theorem Kit.c4 {w0 W : World} {cs : List (Addr × Value)} {rs : List RowF} {x0 x1 x2 x3 : Addr × Value} {a : Addr} {v : Value} (K : Kit w0 (x0 :: x1 :: x2 :: x3 :: (a, v) :: cs) rs W) : W.cell? a = some v := K.cell (a, v) (.tail _ (.tail _ (.tail _ (.tail _ (.head _)))))
theorem Kit.c5 {w0 W : World} {cs : List (Addr × Value)} {rs : List RowF} {x0 x1 x2 x3 x4 : Addr × Value} {a : Addr} {v : Value} (K : Kit w0 (x0 :: x1 :: x2 :: x3 :: x4 :: (a, v) :: cs) rs W) : W.cell? a = some v := K.cell (a, v) (.tail _ (.tail _ (.tail _ (.tail _ (.tail _ (.head _))))))
theorem Kit.c6 {w0 W : World} {cs : List (Addr × Value)} {rs : List RowF} {x0 x1 x2 x3 x4 x5 : Addr × Value} {a : Addr} {v : Value} (K : Kit w0 (x0 :: x1 :: x2 :: x3 :: x4 :: x5 :: (a, v) :: cs) rs W) : W.cell? a = some v := K.cell (a, v) (.tail _ (.tail _ (.tail _ (.tail _ (.tail _ (.tail _ (.head _)))))))
theorem Kit.c7 {w0 W : World} {cs : List (Addr × Value)} {rs : List RowF} {x0 x1 x2 x3 x4 x5 x6 : Addr × Value} {a : Addr} {v : Value} (K : Kit w0 (x0 :: x1 :: x2 :: x3 :: x4 :: x5 :: x6 :: (a, v) :: cs) rs W) : W.cell? a = some v := K.cell (a, v) (.tail _ (.tail _ (.tail _ (.tail _ (.tail _ (.tail _ (.tail _ (.head _))))))))
theorem Kit.c8 {w0 W : World} {cs : List (Addr × Value)} {rs : List RowF} {x0 x1 x2 x3 x4 x5 x6 x7 : Addr × Value} {a : Addr} {v : Value} (K : Kit w0 (x0 :: x1 :: x2 :: x3 :: x4 :: x5 :: x6 :: x7 :: (a, v) :: cs) rs W) : W.cell? a = some v := K.cell (a, v) (.tail _ (.tail _ (.tail _ (.tail _ (.tail _ (.tail _ (.tail _ (.tail _ (.head _)))))))))
theorem Kit.c9 {w0 W : World} {cs : List (Addr × Value)} {rs : List RowF} {x0 x1 x2 x3 x4 x5 x6 x7 x8 : Addr × Value} {a : Addr} {v : Value} (K : Kit w0 (x0 :: x1 :: x2 :: x3 :: x4 :: x5 :: x6 :: x7 :: x8 :: (a, v) :: cs) rs W) : W.cell? a = some v := K.cell (a, v) (.tail _ (.tail _ (.tail _ (.tail _ (.tail _ (.tail _ (.tail _ (.tail _ (.tail _ (.head _))))))))))
theorem Kit.c10 {w0 W : World} {cs : List (Addr × Value)} {rs : List RowF} {x0 x1 x2 x3 x4 x5 x6 x7 x8 x9 : Addr × Value} {a : Addr} {v : Value} (K : Kit w0 (x0 :: x1 :: x2 :: x3 :: x4 :: x5 :: x6 :: x7 :: x8 :: x9 :: (a, v) :: cs) rs W) : W.cell? a = some v := K.cell (a, v) (.tail _ (.tail _ (.tail _ (.tail _ (.tail _ (.tail _ (.tail _ (.tail _ (.tail _ (.tail _ (.head _)))))))))))
theorem Kit.c11 {w0 W : World} {cs : List (Addr × Value)} {rs : List RowF} {x0 x1 x2 x3 x4 x5 x6 x7 x8 x9 x10 : Addr × Value} {a : Addr} {v : Value} (K : Kit w0 (x0 :: x1 :: x2 :: x3 :: x4 :: x5 :: x6 :: x7 :: x8 :: x9 :: x10 :: (a, v) :: cs) rs W) : W.cell? a = some v := K.cell (a, v) (.tail _ (.tail _ (.tail _ (.tail _ (.tail _ (.tail _ (.tail _ (.tail _ (.tail _ (.tail _ (.tail _ (.head _))))))))))))
theorem Kit.c12 {w0 W : World} {cs : List (Addr × Value)} {rs : List RowF} {x0 x1 x2 x3 x4 x5 x6 x7 x8 x9 x10 x11 : Addr × Value} {a : Addr} {v : Value} (K : Kit w0 (x0 :: x1 :: x2 :: x3 :: x4 :: x5 :: x6 :: x7 :: x8 :: x9 :: x10 :: x11 :: (a, v) :: cs) rs W) : W.cell? a = some v := K.cell (a, v) (.tail _ (.tail _ (.tail _ (.tail _ (.tail _ (.tail _ (.tail _ (.tail _ (.tail _ (.tail _ (.tail _ (.tail _ (.head _)))))))))))))
theorem Kit.c13 {w0 W : World} {cs : List (Addr × Value)} {rs : List RowF} {x0 x1 x2 x3 x4 x5 x6 x7 x8 x9 x10 x11 x12 : Addr × Value} {a : Addr} {v : Value} (K : Kit w0 (x0 :: x1 :: x2 :: x3 :: x4 :: x5 :: x6 :: x7 :: x8 :: x9 :: x10 :: x11 :: x12 :: (a, v) :: cs) rs W) : W.cell? a = some v := K.cell (a, v) (.tail _ (.tail _ (.tail _ (.tail _ (.tail _ (.tail _ (.tail _ (.tail _ (.tail _ (.tail _ (.tail _ (.tail _ (.tail _ (.head _))))))))))))))
theorem Kit.c14 {w0 W : World} {cs : List (Addr × Value)} {rs : List RowF} {x0 x1 x2 x3 x4 x5 x6 x7 x8 x9 x10 x11 x12 x13 : Addr × Value} {a : Addr} {v : Value} (K : Kit w0 (x0 :: x1 :: x2 :: x3 :: x4 :: x5 :: x6 :: x7 :: x8 :: x9 :: x10 :: x11 :: x12 :: x13 :: (a, v) :: cs) rs W) : W.cell? a = some v := K.cell (a, v) (.tail _ (.tail _ (.tail _ (.tail _ (.tail _ (.tail _ (.tail _ (.tail _ (.tail _ (.tail _ (.tail _ (.tail _ (.tail _ (.tail _ (.head _)))))))))))))))
theorem Kit.c15 {w0 W : World} {cs : List (Addr × Value)} {rs : List RowF} {x0 x1 x2 x3 x4 x5 x6 x7 x8 x9 x10 x11 x12 x13 x14 : Addr × Value} {a : Addr} {v : Value} (K : Kit w0 (x0 :: x1 :: x2 :: x3 :: x4 :: x5 :: x6 :: x7 :: x8 :: x9 :: x10 :: x11 :: x12 :: x13 :: x14 :: (a, v) :: cs) rs W) : W.cell? a = some v := K.cell (a, v) (.tail _ (.tail _ (.tail _ (.tail _ (.tail _ (.tail _ (.tail _ (.tail _ (.tail _ (.tail _ (.tail _ (.tail _ (.tail _ (.tail _ (.tail _ (.head _))))))))))))))))
theorem Kit.c16 {w0 W : World} {cs : List (Addr × Value)} {rs : List RowF} {x0 x1 x2 x3 x4 x5 x6 x7 x8 x9 x10 x11 x12 x13 x14 x15 : Addr × Value} {a : Addr} {v : Value} (K : Kit w0 (x0 :: x1 :: x2 :: x3 :: x4 :: x5 :: x6 :: x7 :: x8 :: x9 :: x10 :: x11 :: x12 :: x13 :: x14 :: x15 :: (a, v) :: cs) rs W) : W.cell? a = some v := K.cell (a, v) (.tail _ (.tail _ (.tail _ (.tail _ (.tail _ (.tail _ (.tail _ (.tail _ (.tail _ (.tail _ (.tail _ (.tail _ (.tail _ (.tail _ (.tail _ (.tail _ (.head _)))))))))))))))))
theorem Kit.c17 {w0 W : World} {cs : List (Addr × Value)} {rs : List RowF} {x0 x1 x2 x3 x4 x5 x6 x7 x8 x9 x10 x11 x12 x13 x14 x15 x16 : Addr × Value} {a : Addr} {v : Value} (K : Kit w0 (x0 :: x1 :: x2 :: x3 :: x4 :: x5 :: x6 :: x7 :: x8 :: x9 :: x10 :: x11 :: x12 :: x13 :: x14 :: x15 :: x16 :: (a, v) :: cs) rs W) : W.cell? a = some v := K.cell (a, v) (.tail _ (.tail _ (.tail _ (.tail _ (.tail _ (.tail _ (.tail _ (.tail _ (.tail _ (.tail _ (.tail _ (.tail _ (.tail _ (.tail _ (.tail _ (.tail _ (.tail _ (.head _))))))))))))))))))
theorem Kit.r0 {w0 W : World} {cs : List (Addr × Value)} {rs : List RowF} {r : RowF} (K : Kit w0 cs (r :: rs) W) : r.on W := K.row r (.head _)
theorem Kit.mark0 {w0 W W' : World} {cs : List (Addr × Value)} {rs : List RowF} {r r' : RowF} (K : Kit w0 cs (r :: rs) W) (hg : W.grownBy W' r.v.ownBlock) (h : r'.on W') (hv : r'.v = r.v) (hB : r'.B = r.B) : Kit w0 cs (r' :: rs) W' := Kit.mark (pre := []) K hg h hv hB
theorem Kit.lose0 {w0 W W' : World} {cs : List (Addr × Value)} {rs : List RowF} {r : RowF} (K : Kit w0 cs (r :: rs) W) (hg : W.grownBy W' r.v.ownBlock) : Kit w0 cs (rs) W' := (Kit.front (pre := []) K).lose hg
theorem Kit.drop0 {w0 W : World} {cs : List (Addr × Value)} {rs : List RowF} {r : RowF} (K : Kit w0 cs (r :: rs) W) : Kit w0 cs (rs) W := K.sub (fun _ h => h) (.cons _ (List.Sublist.refl _))
theorem Kit.r1 {w0 W : World} {cs : List (Addr × Value)} {rs : List RowF} {x0 : RowF} {r : RowF} (K : Kit w0 cs (x0 :: r :: rs) W) : r.on W := K.row r (.tail _ (.head _))
theorem Kit.mark1 {w0 W W' : World} {cs : List (Addr × Value)} {rs : List RowF} {x0 : RowF} {r r' : RowF} (K : Kit w0 cs (x0 :: r :: rs) W) (hg : W.grownBy W' r.v.ownBlock) (h : r'.on W') (hv : r'.v = r.v) (hB : r'.B = r.B) : Kit w0 cs (x0 :: r' :: rs) W' := Kit.mark (pre := [x0]) K hg h hv hB
theorem Kit.lose1 {w0 W W' : World} {cs : List (Addr × Value)} {rs : List RowF} {x0 : RowF} {r : RowF} (K : Kit w0 cs (x0 :: r :: rs) W) (hg : W.grownBy W' r.v.ownBlock) : Kit w0 cs (x0 :: rs) W' := (Kit.front (pre := [x0]) K).lose hg
theorem Kit.drop1 {w0 W : World} {cs : List (Addr × Value)} {rs : List RowF} {x0 : RowF} {r : RowF} (K : Kit w0 cs (x0 :: r :: rs) W) : Kit w0 cs (x0 :: rs) W := K.sub (fun _ h => h) (.cons_cons _ (.cons _ (List.Sublist.refl _)))
theorem Kit.r2 {w0 W : World} {cs : List (Addr × Value)} {rs : List RowF} {x0 x1 : RowF} {r : RowF} (K : Kit w0 cs (x0 :: x1 :: r :: rs) W) : r.on W := K.row r (.tail _ (.tail _ (.head _)))
theorem Kit.mark2 {w0 W W' : World} {cs : List (Addr × Value)} {rs : List RowF} {x0 x1 : RowF} {r r' : RowF} (K : Kit w0 cs (x0 :: x1 :: r :: rs) W) (hg : W.grownBy W' r.v.ownBlock) (h : r'.on W') (hv : r'.v = r.v) (hB : r'.B = r.B) : Kit w0 cs (x0 :: x1 :: r' :: rs) W' := Kit.mark (pre := [x0, x1]) K hg h hv hB
theorem Kit.lose2 {w0 W W' : World} {cs : List (Addr × Value)} {rs : List RowF} {x0 x1 : RowF} {r : RowF} (K : Kit w0 cs (x0 :: x1 :: r :: rs) W) (hg : W.grownBy W' r.v.ownBlock) : Kit w0 cs (x0 :: x1 :: rs) W' := (Kit.front (pre := [x0, x1]) K).lose hg
theorem Kit.drop2 {w0 W : World} {cs : List (Addr × Value)} {rs : List RowF} {x0 x1 : RowF} {r : RowF} (K : Kit w0 cs (x0 :: x1 :: r :: rs) W) : Kit w0 cs (x0 :: x1 :: rs) W := K.sub (fun _ h => h) (.cons_cons _ (.cons_cons _ (.cons _ (List.Sublist.refl _))))
theorem Kit.r3 {w0 W : World} {cs : List (Addr × Value)} {rs : List RowF} {x0 x1 x2 : RowF} {r : RowF} (K : Kit w0 cs (x0 :: x1 :: x2 :: r :: rs) W) : r.on W := K.row r (.tail _ (.tail _ (.tail _ (.head _))))
theorem Kit.mark3 {w0 W W' : World} {cs : List (Addr × Value)} {rs : List RowF} {x0 x1 x2 : RowF} {r r' : RowF} (K : Kit w0 cs (x0 :: x1 :: x2 :: r :: rs) W) (hg : W.grownBy W' r.v.ownBlock) (h : r'.on W') (hv : r'.v = r.v) (hB : r'.B = r.B) : Kit w0 cs (x0 :: x1 :: x2 :: r' :: rs) W' := Kit.mark (pre := [x0, x1, x2]) K hg h hv hB
theorem Kit.lose3 {w0 W W' : World} {cs : List (Addr × Value)} {rs : List RowF} {x0 x1 x2 : RowF} {r : RowF} (K : Kit w0 cs (x0 :: x1 :: x2 :: r :: rs) W) (hg : W.grownBy W' r.v.ownBlock) : Kit w0 cs (x0 :: x1 :: x2 :: rs) W' := (Kit.front (pre := [x0, x1, x2]) K).lose hg
theorem Kit.drop3 {w0 W : World} {cs : List (Addr × Value)} {rs : List RowF} {x0 x1 x2 : RowF} {r : RowF} (K : Kit w0 cs (x0 :: x1 :: x2 :: r :: rs) W) : Kit w0 cs (x0 :: x1 :: x2 :: rs) W := K.sub (fun _ h => h) (.cons_cons _ (.cons_cons _ (.cons_cons _ (.cons _ (List.Sublist.refl _)))))
theorem Kit.r4 {w0 W : World} {cs : List (Addr × Value)} {rs : List RowF} {x0 x1 x2 x3 : RowF} {r : RowF} (K : Kit w0 cs (x0 :: x1 :: x2 :: x3 :: r :: rs) W) : r.on W := K.row r (.tail _ (.tail _ (.tail _ (.tail _ (.head _)))))
theorem Kit.mark4 {w0 W W' : World} {cs : List (Addr × Value)} {rs : List RowF} {x0 x1 x2 x3 : RowF} {r r' : RowF} (K : Kit w0 cs (x0 :: x1 :: x2 :: x3 :: r :: rs) W) (hg : W.grownBy W' r.v.ownBlock) (h : r'.on W') (hv : r'.v = r.v) (hB : r'.B = r.B) : Kit w0 cs (x0 :: x1 :: x2 :: x3 :: r' :: rs) W' := Kit.mark (pre := [x0, x1, x2, x3]) K hg h hv hB
theorem Kit.lose4 {w0 W W' : World} {cs : List (Addr × Value)} {rs : List RowF} {x0 x1 x2 x3 : RowF} {r : RowF} (K : Kit w0 cs (x0 :: x1 :: x2 :: x3 :: r :: rs) W) (hg : W.grownBy W' r.v.ownBlock) : Kit w0 cs (x0 :: x1 :: x2 :: x3 :: rs) W' := (Kit.front (pre := [x0, x1, x2, x3]) K).lose hg
theorem Kit.drop4 {w0 W : World} {cs : List (Addr × Value)} {rs : List RowF} {x0 x1 x2 x3 : RowF} {r : RowF} (K : Kit w0 cs (x0 :: x1 :: x2 :: x3 :: r :: rs) W) : Kit w0 cs (x0 :: x1 :: x2 :: x3 :: rs) W := K.sub (fun _ h => h) (.cons_cons _ (.cons_cons _ (.cons_cons _ (.cons_cons _ (.cons _ (List.Sublist.refl _))))))
theorem Kit.r5 {w0 W : World} {cs : List (Addr × Value)} {rs : List RowF} {x0 x1 x2 x3 x4 : RowF} {r : RowF} (K : Kit w0 cs (x0 :: x1 :: x2 :: x3 :: x4 :: r :: rs) W) : r.on W := K.row r (.tail _ (.tail _ (.tail _ (.tail _ (.tail _ (.head _))))))
theorem Kit.mark5 {w0 W W' : World} {cs : List (Addr × Value)} {rs : List RowF} {x0 x1 x2 x3 x4 : RowF} {r r' : RowF} (K : Kit w0 cs (x0 :: x1 :: x2 :: x3 :: x4 :: r :: rs) W) (hg : W.grownBy W' r.v.ownBlock) (h : r'.on W') (hv : r'.v = r.v) (hB : r'.B = r.B) : Kit w0 cs (x0 :: x1 :: x2 :: x3 :: x4 :: r' :: rs) W' := Kit.mark (pre := [x0, x1, x2, x3, x4]) K hg h hv hB
theorem Kit.lose5 {w0 W W' : World} {cs : List (Addr × Value)} {rs : List RowF} {x0 x1 x2 x3 x4 : RowF} {r : RowF} (K : Kit w0 cs (x0 :: x1 :: x2 :: x3 :: x4 :: r :: rs) W) (hg : W.grownBy W' r.v.ownBlock) : Kit w0 cs (x0 :: x1 :: x2 :: x3 :: x4 :: rs) W' := (Kit.front (pre := [x0, x1, x2, x3, x4]) K).lose hg
theorem Kit.drop5 {w0 W : World} {cs : List (Addr × Value)} {rs : List RowF} {x0 x1 x2 x3 x4 : RowF} {r : RowF} (K : Kit w0 cs (x0 :: x1 :: x2 :: x3 :: x4 :: r :: rs) W) : Kit w0 cs (x0 :: x1 :: x2 :: x3 :: x4 :: rs) W := K.sub (fun _ h => h) (.cons_cons _ (.cons_cons _ (.cons_cons _ (.cons_cons _ (.cons_cons _ (.cons _ (List.Sublist.refl _)))))))
theorem Kit.r6 {w0 W : World} {cs : List (Addr × Value)} {rs : List RowF} {x0 x1 x2 x3 x4 x5 : RowF} {r : RowF} (K : Kit w0 cs (x0 :: x1 :: x2 :: x3 :: x4 :: x5 :: r :: rs) W) : r.on W := K.row r (.tail _ (.tail _ (.tail _ (.tail _ (.tail _ (.tail _ (.head _)))))))
theorem Kit.mark6 {w0 W W' : World} {cs : List (Addr × Value)} {rs : List RowF} {x0 x1 x2 x3 x4 x5 : RowF} {r r' : RowF} (K : Kit w0 cs (x0 :: x1 :: x2 :: x3 :: x4 :: x5 :: r :: rs) W) (hg : W.grownBy W' r.v.ownBlock) (h : r'.on W') (hv : r'.v = r.v) (hB : r'.B = r.B) : Kit w0 cs (x0 :: x1 :: x2 :: x3 :: x4 :: x5 :: r' :: rs) W' := Kit.mark (pre := [x0, x1, x2, x3, x4, x5]) K hg h hv hB
theorem Kit.lose6 {w0 W W' : World} {cs : List (Addr × Value)} {rs : List RowF} {x0 x1 x2 x3 x4 x5 : RowF} {r : RowF} (K : Kit w0 cs (x0 :: x1 :: x2 :: x3 :: x4 :: x5 :: r :: rs) W) (hg : W.grownBy W' r.v.ownBlock) : Kit w0 cs (x0 :: x1 :: x2 :: x3 :: x4 :: x5 :: rs) W' := (Kit.front (pre := [x0, x1, x2, x3, x4, x5]) K).lose hg
theorem Kit.drop6 {w0 W : World} {cs : List (Addr × Value)} {rs : List RowF} {x0 x1 x2 x3 x4 x5 : RowF} {r : RowF} (K : Kit w0 cs (x0 :: x1 :: x2 :: x3 :: x4 :: x5 :: r :: rs) W) : Kit w0 cs (x0 :: x1 :: x2 :: x3 :: x4 :: x5 :: rs) W := K.sub (fun _ h => h) (.cons_cons _ (.cons_cons _ (.cons_cons _ (.cons_cons _ (.cons_cons _ (.cons_cons _ (.cons _ (List.Sublist.refl _))))))))
theorem Kit.r7 {w0 W : World} {cs : List (Addr × Value)} {rs : List RowF} {x0 x1 x2 x3 x4 x5 x6 : RowF} {r : RowF} (K : Kit w0 cs (x0 :: x1 :: x2 :: x3 :: x4 :: x5 :: x6 :: r :: rs) W) : r.on W := K.row r (.tail _ (.tail _ (.tail _ (.tail _ (.tail _ (.tail _ (.tail _ (.head _))))))))
theorem Kit.mark7 {w0 W W' : World} {cs : List (Addr × Value)} {rs : List RowF} {x0 x1 x2 x3 x4 x5 x6 : RowF} {r r' : RowF} (K : Kit w0 cs (x0 :: x1 :: x2 :: x3 :: x4 :: x5 :: x6 :: r :: rs) W) (hg : W.grownBy W' r.v.ownBlock) (h : r'.on W') (hv : r'.v = r.v) (hB : r'.B = r.B) : Kit w0 cs (x0 :: x1 :: x2 :: x3 :: x4 :: x5 :: x6 :: r' :: rs) W' := Kit.mark (pre := [x0, x1, x2, x3, x4, x5, x6]) K hg h hv hB
theorem Kit.lose7 {w0 W W' : World} {cs : List (Addr × Value)} {rs : List RowF} {x0 x1 x2 x3 x4 x5 x6 : RowF} {r : RowF} (K : Kit w0 cs (x0 :: x1 :: x2 :: x3 :: x4 :: x5 :: x6 :: r :: rs) W) (hg : W.grownBy W' r.v.ownBlock) : Kit w0 cs (x0 :: x1 :: x2 :: x3 :: x4 :: x5 :: x6 :: rs) W' := (Kit.front (pre := [x0, x1, x2, x3, x4, x5, x6]) K).lose hg
theorem Kit.drop7 {w0 W : World} {cs : List (Addr × Value)} {rs : List RowF} {x0 x1 x2 x3 x4 x5 x6 : RowF} {r : RowF} (K : Kit w0 cs (x0 :: x1 :: x2 :: x3 :: x4 :: x5 :: x6 :: r :: rs) W) : Kit w0 cs (x0 :: x1 :: x2 :: x3 :: x4 :: x5 :: x6 :: rs) W := K.sub (fun _ h => h) (.cons_cons _ (.cons_cons _ (.cons_cons _ (.cons_cons _ (.cons_cons _ (.cons_cons _ (.cons_cons _ (.cons _ (List.Sublist.refl _)))))))))
theorem Kit.r8 {w0 W : World} {cs : List (Addr × Value)} {rs : List RowF} {x0 x1 x2 x3 x4 x5 x6 x7 : RowF} {r : RowF} (K : Kit w0 cs (x0 :: x1 :: x2 :: x3 :: x4 :: x5 :: x6 :: x7 :: r :: rs) W) : r.on W := K.row r (.tail _ (.tail _ (.tail _ (.tail _ (.tail _ (.tail _ (.tail _ (.tail _ (.head _)))))))))
theorem Kit.mark8 {w0 W W' : World} {cs : List (Addr × Value)} {rs : List RowF} {x0 x1 x2 x3 x4 x5 x6 x7 : RowF} {r r' : RowF} (K : Kit w0 cs (x0 :: x1 :: x2 :: x3 :: x4 :: x5 :: x6 :: x7 :: r :: rs) W) (hg : W.grownBy W' r.v.ownBlock) (h : r'.on W') (hv : r'.v = r.v) (hB : r'.B = r.B) : Kit w0 cs (x0 :: x1 :: x2 :: x3 :: x4 :: x5 :: x6 :: x7 :: r' :: rs) W' := Kit.mark (pre := [x0, x1, x2, x3, x4, x5, x6, x7]) K hg h hv hB
theorem Kit.lose8 {w0 W W' : World} {cs : List (Addr × Value)} {rs : List RowF} {x0 x1 x2 x3 x4 x5 x6 x7 : RowF} {r : RowF} (K : Kit w0 cs (x0 :: x1 :: x2 :: x3 :: x4 :: x5 :: x6 :: x7 :: r :: rs) W) (hg : W.grownBy W' r.v.ownBlock) : Kit w0 cs (x0 :: x1 :: x2 :: x3 :: x4 :: x5 :: x6 :: x7 :: rs) W' := (Kit.front (pre := [x0, x1, x2, x3, x4, x5, x6, x7]) K).lose hg
theorem Kit.drop8 {w0 W : World} {cs : List (Addr × Value)} {rs : List RowF} {x0 x1 x2 x3 x4 x5 x6 x7 : RowF} {r : RowF} (K : Kit w0 cs (x0 :: x1 :: x2 :: x3 :: x4 :: x5 :: x6 :: x7 :: r :: rs) W) : Kit w0 cs (x0 :: x1 :: x2 :: x3 :: x4 :: x5 :: x6 :: x7 :: rs) W := K.sub (fun _ h => h) (.cons_cons _ (.cons_cons _ (.cons_cons _ (.cons_cons _ (.cons_cons _ (.cons_cons _ (.cons_cons _ (.cons_cons _ (.cons _ (List.Sublist.refl _))))))))))
theorem Kit.r9 {w0 W : World} {cs : List (Addr × Value)} {rs : List RowF} {x0 x1 x2 x3 x4 x5 x6 x7 x8 : RowF} {r : RowF} (K : Kit w0 cs (x0 :: x1 :: x2 :: x3 :: x4 :: x5 :: x6 :: x7 :: x8 :: r :: rs) W) : r.on W := K.row r (.tail _ (.tail _ (.tail _ (.tail _ (.tail _ (.tail _ (.tail _ (.tail _ (.tail _ (.head _))))))))))
theorem Kit.mark9 {w0 W W' : World} {cs : List (Addr × Value)} {rs : List RowF} {x0 x1 x2 x3 x4 x5 x6 x7 x8 : RowF} {r r' : RowF} (K : Kit w0 cs (x0 :: x1 :: x2 :: x3 :: x4 :: x5 :: x6 :: x7 :: x8 :: r :: rs) W) (hg : W.grownBy W' r.v.ownBlock) (h : r'.on W') (hv : r'.v = r.v) (hB : r'.B = r.B) : Kit w0 cs (x0 :: x1 :: x2 :: x3 :: x4 :: x5 :: x6 :: x7 :: x8 :: r' :: rs) W' := Kit.mark (pre := [x0, x1, x2, x3, x4, x5, x6, x7, x8]) K hg h hv hB
theorem Kit.lose9 {w0 W W' : World} {cs : List (Addr × Value)} {rs : List RowF} {x0 x1 x2 x3 x4 x5 x6 x7 x8 : RowF} {r : RowF} (K : Kit w0 cs (x0 :: x1 :: x2 :: x3 :: x4 :: x5 :: x6 :: x7 :: x8 :: r :: rs) W) (hg : W.grownBy W' r.v.ownBlock) : Kit w0 cs (x0 :: x1 :: x2 :: x3 :: x4 :: x5 :: x6 :: x7 :: x8 :: rs) W' := (Kit.front (pre := [x0, x1, x2, x3, x4, x5, x6, x7, x8]) K).lose hg
theorem Kit.drop9 {w0 W : World} {cs : List (Addr × Value)} {rs : List RowF} {x0 x1 x2 x3 x4 x5 x6 x7 x8 : RowF} {r : RowF} (K : Kit w0 cs (x0 :: x1 :: x2 :: x3 :: x4 :: x5 :: x6 :: x7 :: x8 :: r :: rs) W) : Kit w0 cs (x0 :: x1 :: x2 :: x3 :: x4 :: x5 :: x6 :: x7 :: x8 :: rs) W := K.sub (fun _ h => h) (.cons_cons _ (.cons_cons _ (.cons_cons _ (.cons_cons _ (.cons_cons _ (.cons_cons _ (.cons_cons _ (.cons_cons _ (.cons_cons _ (.cons _ (List.Sublist.refl _)))))))))))
theorem Kit.r10 {w0 W : World} {cs : List (Addr × Value)} {rs : List RowF} {x0 x1 x2 x3 x4 x5 x6 x7 x8 x9 : RowF} {r : RowF} (K : Kit w0 cs (x0 :: x1 :: x2 :: x3 :: x4 :: x5 :: x6 :: x7 :: x8 :: x9 :: r :: rs) W) : r.on W := K.row r (.tail _ (.tail _ (.tail _ (.tail _ (.tail _ (.tail _ (.tail _ (.tail _ (.tail _ (.tail _ (.head _)))))))))))
theorem Kit.mark10 {w0 W W' : World} {cs : List (Addr × Value)} {rs : List RowF} {x0 x1 x2 x3 x4 x5 x6 x7 x8 x9 : RowF} {r r' : RowF} (K : Kit w0 cs (x0 :: x1 :: x2 :: x3 :: x4 :: x5 :: x6 :: x7 :: x8 :: x9 :: r :: rs) W) (hg : W.grownBy W' r.v.ownBlock) (h : r'.on W') (hv : r'.v = r.v) (hB : r'.B = r.B) : Kit w0 cs (x0 :: x1 :: x2 :: x3 :: x4 :: x5 :: x6 :: x7 :: x8 :: x9 :: r' :: rs) W' := Kit.mark (pre := [x0, x1, x2, x3, x4, x5, x6, x7, x8, x9]) K hg h hv hB
theorem Kit.lose10 {w0 W W' : World} {cs : List (Addr × Value)} {rs : List RowF} {x0 x1 x2 x3 x4 x5 x6 x7 x8 x9 : RowF} {r : RowF} (K : Kit w0 cs (x0 :: x1 :: x2 :: x3 :: x4 :: x5 :: x6 :: x7 :: x8 :: x9 :: r :: rs) W) (hg : W.grownBy W' r.v.ownBlock) : Kit w0 cs (x0 :: x1 :: x2 :: x3 :: x4 :: x5 :: x6 :: x7 :: x8 :: x9 :: rs) W' := (Kit.front (pre := [x0, x1, x2, x3, x4, x5, x6, x7, x8, x9]) K).lose hg
theorem Kit.drop10 {w0 W : World} {cs : List (Addr × Value)} {rs : List RowF} {x0 x1 x2 x3 x4 x5 x6 x7 x8 x9 : RowF} {r : RowF} (K : Kit w0 cs (x0 :: x1 :: x2 :: x3 :: x4 :: x5 :: x6 :: x7 :: x8 :: x9 :: r :: rs) W) : Kit w0 cs (x0 :: x1 :: x2 :: x3 :: x4 :: x5 :: x6 :: x7 :: x8 :: x9 :: rs) W := K.sub (fun _ h => h) (.cons_cons _ (.cons_cons _ (.cons_cons _ (.cons_cons _ (.cons_cons _ (.cons_cons _ (.cons_cons _ (.cons_cons _ (.cons_cons _ (.cons_cons _ (.cons _ (List.Sublist.refl _))))))))))))
theorem Kit.r11 {w0 W : World} {cs : List (Addr × Value)} {rs : List RowF} {x0 x1 x2 x3 x4 x5 x6 x7 x8 x9 x10 : RowF} {r : RowF} (K : Kit w0 cs (x0 :: x1 :: x2 :: x3 :: x4 :: x5 :: x6 :: x7 :: x8 :: x9 :: x10 :: r :: rs) W) : r.on W := K.row r (.tail _ (.tail _ (.tail _ (.tail _ (.tail _ (.tail _ (.tail _ (.tail _ (.tail _ (.tail _ (.tail _ (.head _))))))))))))
theorem Kit.mark11 {w0 W W' : World} {cs : List (Addr × Value)} {rs : List RowF} {x0 x1 x2 x3 x4 x5 x6 x7 x8 x9 x10 : RowF} {r r' : RowF} (K : Kit w0 cs (x0 :: x1 :: x2 :: x3 :: x4 :: x5 :: x6 :: x7 :: x8 :: x9 :: x10 :: r :: rs) W) (hg : W.grownBy W' r.v.ownBlock) (h : r'.on W') (hv : r'.v = r.v) (hB : r'.B = r.B) : Kit w0 cs (x0 :: x1 :: x2 :: x3 :: x4 :: x5 :: x6 :: x7 :: x8 :: x9 :: x10 :: r' :: rs) W' := Kit.mark (pre := [x0, x1, x2, x3, x4, x5, x6, x7, x8, x9, x10]) K hg h hv hB
theorem Kit.lose11 {w0 W W' : World} {cs : List (Addr × Value)} {rs : List RowF} {x0 x1 x2 x3 x4 x5 x6 x7 x8 x9 x10 : RowF} {r : RowF} (K : Kit w0 cs (x0 :: x1 :: x2 :: x3 :: x4 :: x5 :: x6 :: x7 :: x8 :: x9 :: x10 :: r :: rs) W) (hg : W.grownBy W' r.v.ownBlock) : Kit w0 cs (x0 :: x1 :: x2 :: x3 :: x4 :: x5 :: x6 :: x7 :: x8 :: x9 :: x10 :: rs) W' := (Kit.front (pre := [x0, x1, x2, x3, x4, x5, x6, x7, x8, x9, x10]) K).lose hg
theorem Kit.drop11 {w0 W : World} {cs : List (Addr × Value)} {rs : List RowF} {x0 x1 x2 x3 x4 x5 x6 x7 x8 x9 x10 : RowF} {r : RowF} (K : Kit w0 cs (x0 :: x1 :: x2 :: x3 :: x4 :: x5 :: x6 :: x7 :: x8 :: x9 :: x10 :: r :: rs) W) : Kit w0 cs (x0 :: x1 :: x2 :: x3 :: x4 :: x5 :: x6 :: x7 :: x8 :: x9 :: x10 :: rs) W := K.sub (fun _ h => h) (.cons_cons _ (.cons_cons _ (.cons_cons _ (.cons_cons _ (.cons_cons _ (.cons_cons _ (.cons_cons _ (.cons_cons _ (.cons_cons _ (.cons_cons _ (.cons_cons _ (.cons _ (List.Sublist.refl _)))))))))))))

/-- The cells of a new block of one, two, three cells. -/
theorem Kit.box2 {w0 W : World} {cs : List (Addr × Value)} {rs : List RowF} (K : Kit w0 cs rs W) (u v : Value) (t : TypeId) :
    Kit w0 ((⟨W.heap.size, 0, none⟩, u) :: (⟨W.heap.size, 1, none⟩, v) :: cs) rs (W.alloc (.cells #[u, v] t)) := by
  refine K.cells (ds := [(⟨W.heap.size, 0, none⟩, u), (⟨W.heap.size, 1, none⟩, v)]) ((Below.refl _ _).alloc (Nat.le_refl _) _) ?_ ?_
  · intro p hp
    simp only [List.mem_cons, List.not_mem_nil, or_false] at hp
    rcases hp with rfl | rfl <;> simp
  · intro p hp
    simp only [List.mem_cons, List.not_mem_nil, or_false] at hp
    rcases hp with rfl | rfl <;> simp
theorem Kit.box3 {w0 W : World} {cs : List (Addr × Value)} {rs : List RowF} (K : Kit w0 cs rs W) (u v x : Value) (t : TypeId) :
    Kit w0 ((⟨W.heap.size, 0, none⟩, u) :: (⟨W.heap.size, 1, none⟩, v) :: (⟨W.heap.size, 2, none⟩, x) :: cs) rs (W.alloc (.cells #[u, v, x] t)) := by
  refine K.cells (ds := [(⟨W.heap.size, 0, none⟩, u), (⟨W.heap.size, 1, none⟩, v), (⟨W.heap.size, 2, none⟩, x)]) ((Below.refl _ _).alloc (Nat.le_refl _) _) ?_ ?_
  · intro p hp
    simp only [List.mem_cons, List.not_mem_nil, or_false] at hp
    rcases hp with rfl | rfl | rfl <;> simp
  · intro p hp
    simp only [List.mem_cons, List.not_mem_nil, or_false] at hp
    rcases hp with rfl | rfl | rfl <;> simp
theorem blkSince {W W' : World} {p : Nat} {o : Obj} (h : W.heap[p]? = some o) (hb : Below W.heap.size W W') : W'.heap[p]? = some o := (hb.block p (Array.getElem?_eq_some_iff.1 h).1).trans h
theorem blkBoth {W W' : World} {p : Nat} {o : Obj} (h : W.heap[p]? = some o) (hb : Below W.heap.size W W') : W'.heap[p]? = some o ∧ p < W.heap.size := ⟨blkSince h hb, (Array.getElem?_eq_some_iff.1 h).1⟩
theorem blkLt {W : World} {p : Nat} {o : Obj} (h : W.heap[p]? = some o) : p < W.heap.size := (Array.getElem?_eq_some_iff.1 h).1
/-- The cells of a block of three that lies there since W. -/
theorem Kit.got3 {w0 W W' : World} {cs : List (Addr × Value)} {rs : List RowF} {p : Nat} {u v x : Value} {t : TypeId} (K : Kit w0 cs rs W) (hb : Below W.heap.size W W') (h : W'.heap[p]? = some (.cells #[u, v, x] t)) (hp : W.heap.size ≤ p) :
    Kit w0 ((⟨p, 0, none⟩, u) :: (⟨p, 1, none⟩, v) :: (⟨p, 2, none⟩, x) :: cs) rs W' := by
  refine K.cells (ds := [(⟨p, 0, none⟩, u), (⟨p, 1, none⟩, v), (⟨p, 2, none⟩, x)]) hb ?_ ?_
  · intro q hq
    simp only [List.mem_cons, List.not_mem_nil, or_false] at hq
    rcases hq with rfl | rfl | rfl <;> simp [World.cell?, h]
  · intro q hq
    simp only [List.mem_cons, List.not_mem_nil, or_false] at hq
    rcases hq with rfl | rfl | rfl <;> exact hp
/-- A row and a block of three cells that a statement has left. -/
theorem Kit.left3 {w0 W W' : World} {cs : List (Addr × Value)} {rs : List RowF} {r : RowF} {p : Nat} {u v x : Value} {t : TypeId} (K : Kit w0 cs rs W) (hb : Below W.heap.size W W') (h : W'.heap[p]? = some (.cells #[u, v, x] t)) (hp : W.heap.size ≤ p) (hr : r.on W') (hB : W.heap.size ≤ r.B) (hn : r.v.ownBlock ≠ some p) :
    Kit w0 ((⟨p, 0, none⟩, u) :: (⟨p, 1, none⟩, v) :: (⟨p, 2, none⟩, x) :: cs) (r :: rs) W' := by
  have K1 := K.add hb hr hB
  have K2 := K.got3 hb h hp
  refine ⟨K1.bel, K2.cell, K1.row, K1.fresh, K1.apart, fun q hq s hs => ?_⟩
  rcases List.mem_cons.1 hs with rfl | hs
  · rcases hq with _ | ⟨_, _ | ⟨_, _ | ⟨_, hq⟩⟩⟩
    · exact hn
    · exact hn
    · exact hn
    · exact K1.off q hq _ (.head _)
  · exact K2.off q hq s hs
end Go.Proofs.Ytjilbfohfgalkaa
/- What a call holds while it is walked, in one bundle: nothing that was there has turned; blocks of its own hold what they hold; rows of its own lie apart from them and from one another. -/
namespace Go.Proofs.Ytjilbfohfgalkaa
open Go.RowKit

def objType : Obj → Option TypeId
  | .cells _ t _ => some t
  | _ => none

structure Home (w0 : World) (bs : List (Nat × Obj)) (rs : List RowF) (W : World) : Prop where
  bel : Below w0.heap.size w0 W
  box : ∀ p, p ∈ bs → W.heap[p.1]? = some p.2
  new : ∀ p, p ∈ bs → w0.heap.size ≤ p.1
  nod : bs.Pairwise fun p q => p.1 ≠ q.1
  row : ∀ r, r ∈ rs → r.on W
  fresh : ∀ r, r ∈ rs → w0.heap.size ≤ r.B
  apart : rs.Pairwise fun r s => ∀ k, r.v.ownBlock = some k → s.v.ownBlock ≠ some k
  off : ∀ p, p ∈ bs → ∀ r, r ∈ rs → r.v.ownBlock ≠ some p.1

theorem Home.start (w : World) : Home w [] [] w := ⟨Below.refl _ _, (fun _ h => (by cases h)), (fun _ h => (by cases h)), .nil, (fun _ h => (by cases h)), (fun _ h => (by cases h)), .nil, fun _ h => (by cases h)⟩
theorem Home.since {w0 W W' : World} {bs : List (Nat × Obj)} {rs : List RowF} (H : Home w0 bs rs W) (hb : Below W.heap.size W W') : Home w0 bs rs W' :=
  ⟨H.bel.trans (hb.mono H.bel.size), fun p h => blkSince (H.box p h) hb, H.new, H.nod, fun r h => RowF.since (H.row r h) hb, H.fresh, H.apart, H.off⟩
theorem Home.drew {w0 W : World} {bs : List (Nat × Obj)} {rs : List RowF} (H : Home w0 bs rs W) : Home w0 bs rs W.drew := H.since (Below.refl _ _).drew
theorem Home.drewN {w0 W : World} {bs : List (Nat × Obj)} {rs : List RowF} (H : Home w0 bs rs W) (n : Nat) : Home w0 bs rs (W.drewN n) := H.since ⟨rfl, rfl, rfl, Nat.le_refl _, fun _ _ => rfl⟩
theorem Home.sub {w0 W : World} {bs bs' : List (Nat × Obj)} {rs rs' : List RowF} (H : Home w0 bs rs W) (hc : bs'.Sublist bs) (hr : rs'.Sublist rs) : Home w0 bs' rs' W :=
  ⟨H.bel, fun p h => H.box p (hc.subset h), fun p h => H.new p (hc.subset h), H.nod.sublist hc, fun r h => H.row r (hr.subset h), fun r h => H.fresh r (hr.subset h), H.apart.sublist hr, fun p h r h' => H.off p (hc.subset h) r (hr.subset h')⟩
/-- A new block. -/
theorem Home.alloc {w0 W : World} {bs : List (Nat × Obj)} {rs : List RowF} (H : Home w0 bs rs W) (o : Obj) : Home w0 ((W.heap.size, o) :: bs) rs (W.alloc o) := by
  have hb : Below W.heap.size W (W.alloc o) := (Below.refl _ _).alloc (Nat.le_refl _) o
  have H' := H.since hb
  refine ⟨H'.bel, ?_, ?_, List.pairwise_cons.2 ⟨fun p hp e => ?_, H'.nod⟩, H'.row, H'.fresh, H'.apart, ?_⟩
  · intro p hp
    rcases List.mem_cons.1 hp with rfl | hp
    · exact heap_alloc_new W o
    · exact H'.box p hp
  · intro p hp
    rcases List.mem_cons.1 hp with rfl | hp
    · exact H.bel.size
    · exact H'.new p hp
  · have := blkLt (H.box p hp)
    dsimp only at e
    omega
  · intro p hp r hr e
    rcases List.mem_cons.1 hp with rfl | hp
    · have := ((H.row r hr).lt _ e).2
      dsimp only at this
      omega
    · exact H'.off p hp r hr e
/-- A new row. -/
theorem Home.add {w0 W W' : World} {bs : List (Nat × Obj)} {rs : List RowF} {r : RowF} (H : Home w0 bs rs W) (hb : Below W.heap.size W W') (h : r.on W') (hB : W.heap.size ≤ r.B) : Home w0 bs (r :: rs) W' := by
  have H' := H.since hb
  refine ⟨H'.bel, H'.box, H'.new, H'.nod, ?_, ?_, List.pairwise_cons.2 ⟨fun s hs k e e' => ?_, H'.apart⟩, ?_⟩
  · intro s hs
    rcases List.mem_cons.1 hs with rfl | hs
    · exact h
    · exact H'.row s hs
  · intro s hs
    rcases List.mem_cons.1 hs with rfl | hs
    · exact Nat.le_trans H.bel.size hB
    · exact H'.fresh s hs
  · have h1 := (h.lt k e).1
    have h2 := ((H.row s hs).lt k e').2
    omega
  · intro p hp s hs e
    rcases List.mem_cons.1 hs with rfl | hs
    · have h1 := (h.lt _ e).1
      have h2 := blkLt (H.box p hp)
      omega
    · exact H'.off p hp s hs e
theorem Home.add2 {w0 W W' : World} {bs : List (Nat × Obj)} {rs : List RowF} {r s : RowF} (H : Home w0 bs rs W) (hb : Below W.heap.size W W') (h : r.on W') (h' : s.on W') (hB : W.heap.size ≤ r.B) (hB' : W.heap.size ≤ s.B)
    (hd : ∀ k, r.v.ownBlock = some k → s.v.ownBlock ≠ some k) : Home w0 bs (r :: s :: rs) W' := by
  have H1 := H.add hb h' hB'
  have H2 := H.add hb h hB
  refine ⟨H1.bel, H1.box, H1.new, H1.nod, ?_, ?_, List.pairwise_cons.2 ⟨fun x hx => ?_, H1.apart⟩, ?_⟩
  · intro x hx
    rcases List.mem_cons.1 hx with rfl | hx
    · exact h
    · exact H1.row x hx
  · intro x hx
    rcases List.mem_cons.1 hx with rfl | hx
    · exact H2.fresh _ (.head _)
    · exact H1.fresh x hx
  · rcases List.mem_cons.1 hx with rfl | hx
    · exact hd
    · exact (List.pairwise_cons.1 H2.apart).1 x hx
  · intro p hp x hx
    rcases List.mem_cons.1 hx with rfl | hx
    · exact H2.off p hp _ (.head _)
    · exact H1.off p hp x hx
/-- A store into a block of one's own. -/
theorem Home.set {w0 W : World} {pre post : List (Nat × Obj)} {rs : List RowF} {p j : Nat} {o o' : Obj} {x : Value} (H : Home w0 (pre ++ (p, o) :: post) rs W) (ho : (W.setCell ⟨p, j, none⟩ x).heap[p]? = some o') : Home w0 (pre ++ (p, o') :: post) rs (W.setCell ⟨p, j, none⟩ x) := by
  have hmid : (p, o) ∈ pre ++ (p, o) :: post := List.mem_append_right _ (.head _)
  have hnd := List.pairwise_append.1 H.nod
  have hnd2 := List.pairwise_cons.1 hnd.2.1
  have hg : W.grownBy (W.setCell ⟨p, j, none⟩ x) (some p) := ⟨rfl, rfl, rfl, by simp, fun k _ hne => by simp [World.setCell, Array.getElem?_modify, show p ≠ k from fun e => hne (by rw [e])]⟩
  have hmem : ∀ q, q ∈ pre ++ (p, o') :: post → q = (p, o') ∨ (q ∈ pre ++ (p, o) :: post ∧ q.1 ≠ p) := fun q hq => by
    rcases List.mem_append.1 hq with hq | hq
    · exact .inr ⟨List.mem_append_left _ hq, hnd.2.2 q hq (p, o) (.head _)⟩
    · rcases List.mem_cons.1 hq with rfl | hq
      · exact .inl rfl
      · exact .inr ⟨List.mem_append_right _ (.tail _ hq), fun e => hnd2.1 q hq e.symm⟩
  refine ⟨H.bel.grown hg H.bel.size (fun k e => by cases e; exact H.new _ hmid), ?_, ?_, ?_, ?_, H.fresh, H.apart, ?_⟩
  · intro q hq
    rcases hmem q hq with rfl | ⟨hq, hne⟩
    · exact ho
    · rw [hg.block q.1 (blkLt (H.box q hq)) (fun e => hne (by cases e; rfl))]
      exact H.box q hq
  · intro q hq
    rcases hmem q hq with rfl | ⟨hq, _⟩
    · exact H.new (p, o) hmid
    · exact H.new q hq
  · refine List.pairwise_append.2 ⟨hnd.1, List.pairwise_cons.2 ⟨fun q hq => hnd2.1 q hq, hnd2.2⟩, fun q hq y hy => ?_⟩
    rcases List.mem_cons.1 hy with rfl | hy
    · exact hnd.2.2 q hq (p, o) (.head _)
    · exact hnd.2.2 q hq y (.tail _ hy)
  · exact fun r hr => RowF.kept (H.row r hr) hg (fun k e e' => by cases e; exact H.off _ hmid r hr e')
  · intro q hq r hr
    rcases hmem q hq with rfl | ⟨hq, _⟩
    · exact H.off (p, o) hmid r hr
    · exact H.off q hq r hr
/-- A row written over, or grown: its new place is its old one, or it is of a type that nothing else has. -/
theorem Home.turn {w0 W W' : World} {bs : List (Nat × Obj)} {pre post : List RowF} {r r' : RowF} (H : Home w0 bs (pre ++ r :: post) W) (hg : W.grownBy W' r.v.ownBlock) (h : r'.on W') (hB : r'.B = r.B)
    (hd : r'.v.ownBlock = r.v.ownBlock ∨ ((∀ s, s ∈ pre ++ post → s.t ≠ r'.t) ∧ ∀ p, p ∈ bs → objType p.2 ≠ some r'.t)) : Home w0 bs (pre ++ r' :: post) W' := by
  have hmid : r ∈ pre ++ r :: post := List.mem_append_right _ (.head _)
  have hap := List.pairwise_append.1 H.apart
  have hap2 := List.pairwise_cons.1 hap.2.1
  have hin : ∀ s, s ∈ pre ++ post → s ∈ pre ++ r :: post := fun s hs => by
    rcases List.mem_append.1 hs with hs | hs
    · exact List.mem_append_left _ hs
    · exact List.mem_append_right _ (.tail _ hs)
  have hdis : ∀ s, s ∈ pre ++ post → ∀ k, r.v.ownBlock = some k → s.v.ownBlock ≠ some k := fun s hs k e e' => by
    rcases List.mem_append.1 hs with hs | hs
    · exact hap.2.2 s hs r (.head _) k e' e
    · exact hap2.1 s hs k e e'
  have hbox : ∀ p, p ∈ bs → W'.heap[p.1]? = some p.2 := fun p hp => by
    rw [hg.block p.1 (blkLt (H.box p hp)) (fun e => H.off p hp r hmid e.symm)]
    exact H.box p hp
  have hrow : ∀ s, s ∈ pre ++ post → s.on W' := fun s hs => RowF.kept (H.row s (hin s hs)) hg (hdis s hs)
  have hat : ∀ {s : RowF} {k : Nat}, s.on W' → s.v.ownBlock = some k → ∃ cur, W'.heap[k]? = some (.cells cur s.t (0, 0)) := fun {s k} hs e => by
    rcases hs.2 with ⟨hv, _⟩ | ⟨g, cap, cur, hv, _, hgk, _⟩
    · rw [hv] at e
      simp [Value.ownBlock] at e
    · rw [hv] at e
      simp [Value.ownBlock] at e
      subst e
      exact ⟨cur, hgk⟩
  have hdis' : ∀ s, s ∈ pre ++ post → ∀ k, r'.v.ownBlock = some k → s.v.ownBlock ≠ some k := fun s hs k e e' => by
    rcases hd with hd | ⟨hd, _⟩
    · rw [hd] at e
      exact hdis s hs k e e'
    · obtain ⟨c1, h1⟩ := hat h e
      obtain ⟨c2, h2⟩ := hat (hrow s hs) e'
      rw [h1] at h2
      injection h2 with h2
      injection h2 with _ h2 _
      exact hd s hs h2.symm
  have hmem : ∀ s, s ∈ pre ++ r' :: post → s = r' ∨ s ∈ pre ++ post := fun s hs => by
    rcases List.mem_append.1 hs with hs | hs
    · exact .inr (List.mem_append_left _ hs)
    · rcases List.mem_cons.1 hs with hs | hs
      · exact .inl hs
      · exact .inr (List.mem_append_right _ hs)
  refine ⟨H.bel.grown hg H.bel.size (fun k e => Nat.le_trans (H.fresh r hmid) ((H.row r hmid).lt k e).1), hbox, H.new, H.nod, ?_, ?_, ?_, ?_⟩
  · intro s hs
    rcases hmem s hs with rfl | hs
    · exact h
    · exact hrow s hs
  · intro s hs
    rcases hmem s hs with rfl | hs
    · rw [hB]
      exact H.fresh r hmid
    · exact H.fresh s (hin s hs)
  · refine List.pairwise_append.2 ⟨hap.1, List.pairwise_cons.2 ⟨fun s hs => hdis' s (List.mem_append_right _ hs), hap2.2⟩, fun s hs x hx => ?_⟩
    rcases List.mem_cons.1 hx with rfl | hx
    · exact fun k e e' => hdis' s (List.mem_append_left _ hs) k e' e
    · exact hap.2.2 s hs x (.tail _ hx)
  · intro p hp s hs e
    rcases hmem s hs with rfl | hs
    · rcases hd with hd | ⟨_, hd⟩
      · rw [hd] at e
        exact H.off p hp r hmid e
      · obtain ⟨c1, h1⟩ := hat h e
        rw [hbox p hp] at h1
        have h3 : p.2 = .cells c1 s.t (0, 0) := by injection h1
        exact hd p hp (by rw [h3]; rfl)
    · exact H.off p hp s (hin s hs) e
end Go.Proofs.Ytjilbfohfgalkaa
