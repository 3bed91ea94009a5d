
/- Rekeys as texts: RekeyText of the program. -/
import Derived.Test.YtmlmlmcmhpahpaaDoorTk2
import Derived.Deep.RegionHeld3
import Derived.Deep.AppendLies
import Derived.Shelf.Strings.OnBuilder
namespace Go.Proofs.YtmlmlmcmhpahpaaDoor
open Go.RowKit Go.Shelf
namespace Tx
def Tryd.join_ren : Go.Shelf.Ren := ⟨fun | 156 => 36 | 165 => 54 | 166 => 55 | 169 => 56 | 240 => 67 | 241 => 68 | 276 => 77 | 277 => 78 | n => n, fun | 31 => 65 | 9 => 9 | 3 => 3 | 4 => 4 | 0 => 0 | 20 => 20 | 72 => 91 | 76 => 93 | 70 => 89 | 37 => 74 | 75 => 78 | 127 => 110 | 164 => 120 | 5 => 5 | 80 => 95 | n => n, fun | n => n⟩
theorem Tryd.join : Go.Proofs.Lays.n156 Tryd.prog Tryd.join_ren := {
  mixed := by kernel_rfl
  f156 := Tryd.func36.trans (congrArg some (by kernel_rfl))
  f165 := Tryd.func54.trans (congrArg some (by kernel_rfl))
  f166 := Tryd.func55.trans (congrArg some (by kernel_rfl))
  f169 := Tryd.func56.trans (congrArg some (by kernel_rfl))
  f240 := Tryd.func67.trans (congrArg some (by kernel_rfl))
  f241 := Tryd.func68.trans (congrArg some (by kernel_rfl))
  f276 := Tryd.func77.trans (congrArg some (by kernel_rfl))
  f277 := Tryd.func78.trans (congrArg some (by kernel_rfl))
  t0 := Tryd.underlying0
  a0 := Tryd.isAgg0
  z0 := Tryd.sizeOf0
  v0 := Tryd.zeroValue0
  t3 := Tryd.underlying3
  a3 := Tryd.isAgg3
  z3 := Tryd.sizeOf3
  v3 := Tryd.zeroValue3
  t4 := Tryd.underlying4
  a4 := Tryd.isAgg4
  z4 := Tryd.sizeOf4
  v4 := Tryd.zeroValue4
  t9 := Tryd.underlying9
  a9 := Tryd.isAgg9
  z9 := Tryd.sizeOf9
  v9 := Tryd.zeroValue9
  t20 := Tryd.underlying20
  a20 := Tryd.isAgg20
  z20 := Tryd.sizeOf20
  v20 := Tryd.zeroValue20
  t31 := Tryd.underlying65
  a31 := Tryd.isAgg65
  z31 := Tryd.sizeOf65
  v31 := Tryd.zeroValue65
  t37 := Tryd.underlying74
  a37 := Tryd.isAgg74
  z37 := Tryd.sizeOf74
  v37 := Tryd.zeroValue74
  t70 := Tryd.underlying89
  a70 := Tryd.isAgg89
  z70 := Tryd.sizeOf89
  v70 := Tryd.zeroValue89
  t72 := Tryd.underlying91
  a72 := Tryd.isAgg91
  z72 := Tryd.sizeOf91
  v72 := Tryd.zeroValue91
  t75 := Tryd.underlying78
  a75 := Tryd.isAgg78
  z75 := Tryd.sizeOf78
  v75 := Tryd.zeroValue78
  t76 := Tryd.underlying93
  a76 := Tryd.isAgg93
  z76 := Tryd.sizeOf93
  v76 := Tryd.zeroValue93
  t127 := Tryd.underlying110
  a127 := Tryd.isAgg110
  z127 := Tryd.sizeOf110
  v127 := Tryd.zeroValue110
  t164 := Tryd.underlying120
  a164 := Tryd.isAgg120
  z164 := Tryd.sizeOf120
  v164 := Tryd.zeroValue120 }
theorem Tryd.joinX : Builder.Extra Tryd.prog Tryd.join_ren := {
  sizeBuilder := by kernel_rfl
  liesBuilder := by kernel_rfl
  t5 := Tryd.underlying5
  a5 := Tryd.isAgg5
  z5 := Tryd.sizeOf5
  v5 := Tryd.zeroValue5
  infoByte := by kernel_rfl
  cellsByte := by kernel_rfl
  sizeByte := by kernel_rfl
  neB5 := by decide }
theorem infoStr : (Tryd.prog.info? 9).map (fun i => (i.zero, i.size, i.bytes)) = some (some (.string ⟨#[]⟩), 1, 16) := by kernel_rfl

/-- The slice v holds the texts xs, in a block at or beyond B. -/
def Strs (B : Nat) (v : Value) (xs : List (List UInt8)) (W : World) : Prop := W.ownsRow B 9 1 v xs.length (xs.map st)
theorem Strs.since {B : Nat} {v : Value} {xs : List (List UInt8)} {W W' : World} (h : Strs B v xs W) (hb : Below W.heap.size W W') : Strs B v xs W' :=
  RowF.since (r := ⟨B, 9, 1, v, xs.length, xs.map st⟩) h hb
theorem Strs.lt {B : Nat} {v : Value} {xs : List (List UInt8)} {W : World} (h : Strs B v xs W) : ∀ k, v.ownBlock = some k → B ≤ k ∧ k < W.heap.size := World.ownsRow.lt h
theorem strs_own {W : World} {B n : Nat} {v : Value} {xs : List (List UInt8)} (h : Strs B v xs W) (hn : xs.length = n) (o : Obj) : (W.alloc o).ownsRow B 9 1 v n (xs.map st) := by
  subst hn
  exact World.ownsRow.alloc h o
theorem strs_of {W : World} {B g N c : Nat} {ys : List Value} {xs : List (List UInt8)} (h : W.ownsRow B 9 1 (.slice (some ⟨g, 0, none⟩) N c) N ys) (e : ys = xs.map st) (hn : xs.length = N) : Strs B (.slice (some ⟨g, 0, none⟩) N c) xs W := by
  subst e hn
  exact h
theorem join_any {B g n c : Nat} {xs : List (List UInt8)} (sep : List UInt8) {w : World} (h : Strs B (.slice (some ⟨g, 0, none⟩) n c) xs w) (hn : xs.length = n) (hl : (Lib.join xs sep).length ≤ 140737488355328) (hN : n ≤ 140737488355328) :
    Calls Tryd.prog 36 #[.slice (some ⟨g, 0, none⟩) n c, st sep] w fun e w' => e = .returned (st (Lib.join xs sep)) ∧ Below w.heap.size w w' := by
  subst hn
  have hm : (xs.map (fun l => (⟨l.toArray⟩ : ByteArray))).map (·.data.toList) = xs := by simp [Function.comp_def]
  have hlen : (xs.map (fun l => (⟨l.toArray⟩ : ByteArray))).length = xs.length := by simp
  have hcell : ∀ (j : Nat) (hj : j < xs.length), w.cell? ⟨g, j, none⟩ = some (st xs[j]) := fun j hj => by
    rw [World.ownsRow.cellAt h j (by omega)]
    simp [hj]
  have hgc : g < w.heap.size ∧ xs.length ≤ c := by
    rcases h.2 with ⟨e, _⟩ | ⟨g', cap, cur, e, _, hg, h1, _⟩
    · cases e
    · injection e with e1 e2 e3
      injection e1 with e1
      injection e1 with e1
      subst e1 e3
      exact ⟨(Array.getElem?_eq_some_iff.1 hg).1, h1⟩
  have := Any.strings_Join Tryd.join Tryd.joinX g 0 c (xs.map fun l => (⟨l.toArray⟩ : ByteArray)) ⟨sep.toArray⟩ w (fun j x hx => by
    rw [List.getElem?_map] at hx
    cases hj : xs[j]? with
    | none => simp [hj] at hx
    | some l =>
      simp [hj] at hx
      obtain ⟨hlt, e⟩ := List.getElem?_eq_some_iff.1 hj
      rw [Nat.zero_add, hcell j hlt, e, ← hx]) hgc.1 (by rw [hlen]; exact hN) (by rw [hlen]; exact hgc.2) (by rw [hm]; simpa using hl)
  rw [hm, hlen] at this
  exact (show Calls Tryd.prog (Tryd.join_ren.f 156) #[.slice (some ⟨g, 0, none⟩) xs.length c, st sep] w fun e w' => e = .returned (st (Lib.join xs sep)) ∧ Below w.heap.size w w' by simpa using this)
theorem join_rek (ep : Nat) (ws : List W4) : Lib.join ([101, 112, 111, 99, 104] :: Lib.decDigits ep :: ws.map wrapT) [32] = (sEpoch ++ Lib.decDigits ep) ++ rekW ws := by
  rw [Lib.join_cons]
  simp [Lib.joinTail, rekW, List.flatMap, Function.comp_def]
theorem step_append_s {P : Program} (w : World) {ops : Array Oper} {o : Oper} {a : Act} {K : Act → World → Prop} {Q : Exit → Act → World → Prop} {E : Prop} (hw : Region.wanted o (yielded ops a.tmps) = true) (s x : Operand) (t : TypeId)
    (ho : o.op = .call { callee := .builtin .append, args := #[s, x], argTypes := #[t, t] })
    (base : Nat) (e : TypeId) (i : TypeInfo) (z : Value) (size bytes : Nat) (ht : P.underlying t = some (.slice e)) (hi : P.info? e = some i) (hz : i.zero = some z)
    (hsize : i.size = size) (hby : i.bytes = bytes) (hzs : z.cells.size = size) (hsz : 0 < size)
    (v : Value) (n : Nat) (xs : List Value) (hs : a.eval s = v) (hown : w.ownsRow base e size v n xs)
    (ad : Addr) (m c : Nat) (news : List Value) (hx : a.eval x = .slice (some ad) m c) (hl : news.length = m * size) (hnews : ∀ j u, news[j]? = some u → w.cell? (ad.add j) = some u) (h1 : ∀ u ∈ news, u.oneCell' = true)
    (hm : 0 < m) (h63 : n + m ≤ maxLen) (hbytes : (n + m) * bytes ≤ 140737488355328) (hbase : base ≤ w.heap.size) (H : Nat) (hH : w.heap.size = H)
    (h : ∀ g cap w', w'.ownsRow base e size (.slice (some ⟨g, 0, none⟩) (n + m) cap) (n + m) (xs ++ news) → w.grownBy w' v.ownBlock → (v.ownBlock = some g ∨ g = H) → g < w'.heap.size → K (a.put o.dst (.slice (some ⟨g, 0, none⟩) (n + m) cap)) w') :
    if Region.wanted o (yielded ops a.tmps) = true then Oper.wp P o a w K Q else E := by
  rw [if_pos hw]
  exact wp_append_lies w s x t ho base e i z size bytes ht hi hz hsize hby hzs hsz v n xs hs hown ad m c news hx hl hnews h1 hm h63 hbytes hbase H hH h
theorem info_parts' {P : Program} {t : TypeId} {z : Value} {s b : Nat} (h : (P.info? t).map (fun i => (i.zero, i.size, i.bytes)) = some (some z, s, b)) : ∃ i, P.info? t = some i ∧ i.zero = some z ∧ i.size = s ∧ i.bytes = b := by
  cases hi : P.info? t with
  | none => simp [hi] at h
  | some i =>
    simp [hi] at h
    exact ⟨i, rfl, h.1, h.2.1, h.2.2⟩

/-- What the round's region keeps. -/
def RRest (w2 : World) (p : Nat) (W : World) : Prop := Below w2.heap.size w2 W ∧ p < W.heap.size
theorem RRest.later {w2 W W' : World} {p : Nat} (h : RRest w2 p W) (hb : Below W.heap.size W W') : RRest w2 p W' := ⟨h.1.trans (hb.mono h.1.size), Nat.lt_of_lt_of_le h.2 hb.size⟩
theorem rheld_later {w2 W W' : World} {p : Nat} {p1 p2 p3 p4 : Addr} {v1 v2 v3 v4 : Value} (h : W.cell? p1 = some v1 ∧ W.cell? p2 = some v2 ∧ W.cell? p3 = some v3 ∧ W.cell? p4 = some v4 ∧ RRest w2 p W) (hb : Below W.heap.size W W') :
    W'.cell? p1 = some v1 ∧ W'.cell? p2 = some v2 ∧ W'.cell? p3 = some v3 ∧ W'.cell? p4 = some v4 ∧ RRest w2 p W' := ⟨cell_since h.1 hb, cell_since h.2.1 hb, cell_since h.2.2.1 hb, cell_since h.2.2.2.1 hb, h.2.2.2.2.later hb⟩
theorem rheld_grown {w2 W W' : World} {p : Nat} {v1 v2 v3 v4 : Value} {row : Option Nat} (h : W.cell? ⟨p, 0, none⟩ = some v1 ∧ W.cell? ⟨p, 1, none⟩ = some v2 ∧ W.cell? ⟨p, 2, none⟩ = some v3 ∧ W.cell? ⟨p, 3, none⟩ = some v4 ∧ RRest w2 p W) (hg : W.grownBy W' row)
    (hr : ∀ k, row = some k → w2.heap.size ≤ k ∧ k < p) :
    W'.cell? ⟨p, 0, none⟩ = some v1 ∧ W'.cell? ⟨p, 1, none⟩ = some v2 ∧ W'.cell? ⟨p, 2, none⟩ = some v3 ∧ W'.cell? ⟨p, 3, none⟩ = some v4 ∧ RRest w2 p W' := by
  have hn : some p ≠ row := fun e => by have := (hr p e.symm).2; omega
  exact ⟨hg.cell h.1 hn, hg.cell h.2.1 hn, hg.cell h.2.2.1 hn, hg.cell h.2.2.2.1 hn, h.2.2.2.2.1.grown hg h.2.2.2.2.1.size (fun k e => (hr k e).1), Nat.lt_of_lt_of_le h.2.2.2.2.2 hg.size⟩
theorem cell_one (w : World) (x : Value) (t : TypeId) : ∀ j u, [x][j]? = some u → (w.alloc (.cells #[x] t)).cell? ((⟨w.heap.size, 0, none⟩ : Addr).add j) = some u := fun j u hj => by
  match j, hj with
  | 0, hj => simp at hj; subst hj; simp [Addr.add]
  | j + 1, hj => simp at hj

set_option maxRecDepth 100000 in
set_option maxHeartbeats 4000000 in
theorem rekeyText_any {B : Nat} {x : Value} {ws : List W4} {w : World} (ep : Int) (h : Wraps B x ws w) (hP : HasPow w) :
    Calls Tryd.prog 16 #[rv ep x] w fun e w' => e = .returned (st (rekText ep ws)) ∧ Below w.heap.size w w' := by
  obtain ⟨i0, hii, hz0, hz1, hz2⟩ := info_parts' infoStr
  obtain ⟨ax, cx, hx⟩ := wrapsRow h
  obtain ⟨N, HLEN⟩ : ∃ N, Hid (ws.length = N) := ⟨_, rfl⟩
  rw [HLEN.out] at hx
  subst hx
  have HP := hidT hP
  clear hP
  cases hR : rkB ep ws with
  | false =>
    have HT := hidT (show rekText ep ws = [] by simp [rekText, hR])
    have HW := hidT (wrapsSince h (oneB w (rb ep (.slice ax N cx))))
    clear h
    go_enter Tryd.func16, Tryd.ntmps16
    go_wp2_with fail
    refine (rekeyOk_any ep HW.out).mono ?_
    rintro e w1 ⟨rfl, hb⟩
    rw [hR]
    have HB := hidT ((oneB _ _).trans (hb.mono (by simp)))
    clear hb
    go_wp2
    go_ret
    exact ⟨by rw [HT.out]; rfl, HB.out⟩
  | true =>
    have HT := hidT (show rekText ep ws = (sEpoch ++ Lib.decDigits ep.toNat) ++ rekW ws by simp [rekText, hR, rekT])
    obtain ⟨he1, he2, hlen, hok⟩ := rkB_nat hR
    have HOK := hidT hok
    clear hok
    obtain ⟨n, rfl⟩ : ∃ n : Nat, ep = (n : Int) := ⟨ep.toNat, by omega⟩
    have hl0 := dec_len 9 n (by omega)
    rw [HLEN.out] at hlen
    have HW := hidT (wrapsSince h (oneB w (rb n (.slice ax N cx))))
    have P1 := hidT (heap_new w (rb n (.slice ax N cx)))
    clear h
    go_enter Tryd.func16, Tryd.ntmps16
    go_wp2_with fail
    refine (rekeyOk_any (n : Int) HW.out).mono ?_
    rintro e w1 ⟨rfl, hb⟩
    rw [hR]
    have B1 := hidT ((oneB _ _).trans (hb.mono (by simp)))
    have P1 := hidT ((hb.block _ (cell_lt (blk2 P1.out).1)).trans P1.out)
    have HW := hidT (wrapsSince HW.out hb)
    clear hb
    obtain ⟨c0, c1, f0, f1⟩ := blk2 P1.out
    go_wp2_with fail
    refine (decimal_any n (by omega) _ (HP.out.since B1.out)).mono ?_
    rintro e w2 ⟨rfl, hb2⟩
    have B2 := hidT (B1.out.trans (hb2.mono B1.out.size))
    have P2 := hidT ((hb2.block _ (cell_lt (blk2 P1.out).1)).trans P1.out)
    have HW2 := hidT (wrapsSince HW.out hb2)
    clear hb2 c0 c1 f0 f1 HW P1 B1
    have P3 := hidT ((heap_old w2 (.cells #[st [101, 112, 111, 99, 104], st (Lib.decDigits n)] 9) (cell_lt (blk2 P2.out).1)).trans P2.out)
    have B3 := hidT (B2.out.alloc B2.out.size (.cells #[st [101, 112, 111, 99, 104], st (Lib.decDigits n)] 9))
    have HW3 := hidT (wrapsSince HW2.out (oneB w2 (.cells #[st [101, 112, 111, 99, 104], st (Lib.decDigits n)] 9)))
    have HS3 : Hid (Strs w2.heap.size (.slice (some ⟨w2.heap.size, 0, none⟩) 2 2) [[101, 112, 111, 99, 104], Lib.decDigits n] (w2.alloc (.cells #[st [101, 112, 111, 99, 104], st (Lib.decDigits n)] 9))) :=
      World.ownsRow_lit w2 #[st [101, 112, 111, 99, 104], st (Lib.decDigits n)] 2 (Nat.le_refl _) (by unfold maxLen; omega) (by simp)
    obtain ⟨c0, c1, f0, f1⟩ := blk2 P3.out
    have B23 := hidT (oneB w2 (.cells #[st [101, 112, 111, 99, 104], st (Lib.decDigits n)] 9))
    have HZ := hidT (show w.heap.size < w2.heap.size from cell_lt (blk2 P2.out).1)
    clear P2
    go_wp2
    generalize (w2.alloc (.cells #[st [101, 112, 111, 99, 104], st (Lib.decDigits n)] 9)) = w3 at B3 P3 HW3 HS3 B23 c0 c1 f0 f1 ⊢
    have HZ3 := hidT (show w2.heap.size < w3.heap.size from (HS3.out.lt _ rfl).2)
    go_loopw [3, 16] (fun sv iv wr => ∃ (k g c : Nat), k ≤ N ∧ iv = .int .i64 (k : Int) ∧ sv = .slice (some ⟨g, 0, none⟩) (k + 2) c ∧ Hid (Strs w2.heap.size (.slice (some ⟨g, 0, none⟩) (k + 2) c) ([101, 112, 111, 99, 104] :: Lib.decDigits n :: (ws.take k).map wrapT) wr) ∧ Below w2.heap.size w2 wr) (fun _ iv _ => N - (intOf iv).toNat)
    case atStart => exact ⟨0, _, _, Nat.zero_le _, rfl, rfl, HS3, B23.out⟩
    case round =>
      obtain ⟨k, g0, cc, hk, rfl, rfl, HS, hB⟩ := hrel
      have BR := hidT (B2.out.trans (hB.mono B2.out.size))
      by_cases hlt : k < N
      · have hi : (k : Int) < (N : Int) := by omega
        have hlt' : k < ws.length := by rw [HLEN.out]; exact hlt
        have WR := hidT (wrapsSince HW2.out hB)
        obtain ⟨g, cap, hxe, _, hg, _, _, hseg, _⟩ : ∃ g cap, Value.slice ax N cx = .slice (some ⟨g, 0, none⟩) ws.length cap ∧ B ≤ g ∧ g < wr.heap.size ∧ ws.length ≤ cap ∧ cap ≤ maxLen ∧ WSeg g 0 ws wr ∧ ∀ o, wr.frozen? ⟨g, o, none⟩ = false := by
          rcases WR.out.form with ⟨e1, e2⟩ | h
          · rw [e2] at hlt'; simp at hlt'
          · exact h
        injection hxe with e1 e2 e3
        subst e1
        clear e2 e3
        obtain ⟨q0, q1, q2, q3⟩ := hseg k hlt'
        clear hseg
        have HO := okW_nat (HOK.out _ (List.getElem_mem hlt'))
        have HTK := hidT (show ws.take (k + 1) = ws.take k ++ [ws[k]] by rw [List.take_add_one, List.getElem?_eq_getElem hlt']; rfl)
        generalize hwk : ws[k] = wk at q0 q1 q2 q3 HO HTK
        obtain ⟨a, b, c, d⟩ := wk
        simp only [Nat.zero_add] at q0 q1 q2 q3
        simp only at HO
        obtain ⟨a, rfl⟩ : ∃ n : Nat, a = (n : Int) := ⟨a.toNat, by omega⟩
        obtain ⟨b, rfl⟩ : ∃ n : Nat, b = (n : Int) := ⟨b.toNat, by omega⟩
        obtain ⟨c, rfl⟩ : ∃ n : Nat, c = (n : Int) := ⟨c.toNat, by omega⟩
        obtain ⟨d, rfl⟩ : ∃ n : Nat, d = (n : Int) := ⟨d.toNat, by omega⟩
        have HWT := hidT (show wrapT ((a : Int), (b : Int), (c : Int), (d : Int)) = keyT a b ++ 62 :: keyT c d by simp [wrapT])
        have ka := keyT_len (n := a) (v := b) (by omega) (by omega)
        have kc := keyT_len (n := c) (v := d) (by omega) (by omega)
        have HL := hidT (show ((ws.take (k + 1)).map wrapT) = (ws.take k).map wrapT ++ [keyT a b ++ 62 :: keyT c d] by rw [HTK.out, List.map_append, List.map_cons, HWT.out]; rfl)
        clear hwk
        have a1 := fun w => run_string_add_lists (P := Tryd.prog) w (keyT a b) [62] (by omega) (by simp)
        have a2 := fun w => run_string_add_lists (P := Tryd.prog) w (keyT a b ++ [62]) (keyT c d) (by simp; omega) (by omega)
        have hB4 := hidT (hB.alloc hB.size (.cells #[.int .i64 a, .int .i64 b, .int .i64 c, .int .i64 d] 63))
        have HS4 := hidT (HS.out.since (oneB wr (.cells #[.int .i64 a, .int .i64 b, .int .i64 c, .int .i64 d] 63)))
        have hlenk : ([101, 112, 111, 99, 104] :: Lib.decDigits n :: (ws.take k).map wrapT).length = k + 2 := by simp [HLEN.out]; omega
        have hzr : w2.heap.size ≤ wr.heap.size := hB.size
        have hneB : ∀ jj, (Value.slice (some ⟨g0, 0, none⟩) (k + 2) cc).ownBlock = some jj → w2.heap.size ≤ jj ∧ jj < wr.heap.size := fun jj e => HS.out.lt jj e
        have HPa := hidT (show HasPow (wr.alloc (.cells #[.int .i64 a, .int .i64 b, .int .i64 c, .int .i64 d] 63)) from (HP.out.since B2.out).since (hB.alloc hB.size _))
        have hRest : RRest w2 wr.heap.size (wr.alloc (.cells #[.int .i64 a, .int .i64 b, .int .i64 c, .int .i64 d] 63)).drew := ⟨hB4.out.drew, by simp⟩
        have hP0 : (wr.alloc (.cells #[.int .i64 a, .int .i64 b, .int .i64 c, .int .i64 d] 63)).drew.cell? ⟨wr.heap.size, 0, none⟩ = some (.int .i64 a) ∧ (wr.alloc (.cells #[.int .i64 a, .int .i64 b, .int .i64 c, .int .i64 d] 63)).drew.cell? ⟨wr.heap.size, 1, none⟩ = some (.int .i64 b) ∧ (wr.alloc (.cells #[.int .i64 a, .int .i64 b, .int .i64 c, .int .i64 d] 63)).drew.cell? ⟨wr.heap.size, 2, none⟩ = some (.int .i64 c) ∧ (wr.alloc (.cells #[.int .i64 a, .int .i64 b, .int .i64 c, .int .i64 d] 63)).drew.cell? ⟨wr.heap.size, 3, none⟩ = some (.int .i64 d) ∧ RRest w2 wr.heap.size (wr.alloc (.cells #[.int .i64 a, .int .i64 b, .int .i64 c, .int .i64 d] 63)).drew := ⟨by simp, by simp, by simp, by simp, hRest⟩
        have HP0 := hidT hP0
        have tokA : True := trivial
        have hba : a ≤ 1000000000 := by omega
        have hbb : b ≤ 1000000000 := by omega
        have hbc : c ≤ 1000000000 := by omega
        have hbd : d ≤ 1000000000 := by omega
        clear hP0 hRest hB HS c0 c1 f0 f1
        go_wp2
        clear q0 q1 q2 q3
        generalize hw4 : (wr.alloc (.cells #[.int .i64 a, .int .i64 b, .int .i64 c, .int .i64 d] 63)) = w4 at HP0 HPa HS4 hB4 ⊢
        have HPa := hidT (show HasPow w4.drew from HPa.out.since (Below.refl _ _).drew)
        have HS4 := hidT (show Strs _ _ _ w4.drew from HS4.out.since (Below.refl _ _).drew)
        have hz24 : w2.heap.size ≤ w4.drew.heap.size := hB4.out.size
        have hz4 : Hid (wr.heap.size < w4.heap.size) := by show wr.heap.size < w4.heap.size; rw [← hw4]; simp
        clear hw4
        go_region_held3 (fun W => W.cell? ⟨wr.heap.size, 0, none⟩ = some (.int .i64 a) ∧ W.cell? ⟨wr.heap.size, 1, none⟩ = some (.int .i64 b) ∧ W.cell? ⟨wr.heap.size, 2, none⟩ = some (.int .i64 c) ∧ W.cell? ⟨wr.heap.size, 3, none⟩ = some (.int .i64 d) ∧ RRest w2 wr.heap.size W)
          (first | exact HP0.out | exact rheld_later ‹_› b6 | exact rheld_later ‹_› b5 | exact rheld_later ‹_› (oneB _ _) | exact rheld_grown ‹_› hgB hneB | assumption)
          (first
            | (go_at_call 35; have _t := tokA; clear _t tokA; have hpp := HPa.out; refine (keyText_any a b hba hbb _ hpp).mono ?_; clear hpp; rintro e w5 ⟨rfl, b5⟩; have hs5 := b5.size)
            | (go_at_call 35; have hpp := HPa.out.since b5; refine (keyText_any c d hbc hbd _ hpp).mono ?_; clear hpp; rintro e w6 ⟨rfl, b6⟩; have hs6 := b6.size)
            | (refine step_append_s _ (by rfl) _ _ _ (by rfl) w2.heap.size 9 i0 (.string ⟨#[]⟩) 1 16 Tryd.underlying65 hii hz0 hz1 hz2 rfl (by omega) (.slice (some ⟨g0, 0, none⟩) (k + 2) cc) (k + 2) _ (by rfl) (by exact strs_own ((HS4.out.since b5).since b6) hlenk _) ⟨w6.heap.size, 0, none⟩ 1 _ [st (keyT a b ++ 62 :: keyT c d)] (by rfl) (by rfl) (by exact cell_one _ _ _) (by simp [Value.oneCell']) (by omega) (by unfold maxLen; omega) (by omega) (by exact Nat.le_trans hz24 (Nat.le_trans hs5 (Nat.le_trans hs6 (by simp)))) _ rfl ?_; intro gB cB wB hownB hgB hatB hltB))
        all_goals
          rename_i hHeld
          have HRf := hidT hHeld.2.2.2.2.1
          have HKn : Hid (Strs w2.heap.size (.slice (some ⟨gB, 0, none⟩) (k + 2 + 1) cB) ([101, 112, 111, 99, 104] :: Lib.decDigits n :: (ws.take (k + 1)).map wrapT) wB) := strs_of hownB (by rw [HL.out]; simp) (by rw [HL.out]; simp at hlenk ⊢; omega)
          clear hHeld hownB hgB b5 b6 HP0
          go_wp2
          go_roundw
          case rel => exact ⟨k + 1, gB, cB, by omega, by go_num, by go_num, HKn, HRf.out⟩
          case measure => simp [intOf] <;> omega
      · have hi : ¬ (k : Int) < (N : Int) := by omega
        have HKT := hidT (show ws.take k = ws by exact List.take_of_length_le (by rw [HLEN.out]; omega))
        have hS := HS.out
        rw [HKT.out] at hS
        have HJ := hidT (join_rek n ws)
        have HJL := hidT (show (Lib.join ([101, 112, 111, 99, 104] :: Lib.decDigits n :: ws.map wrapT) [32]).length ≤ 140737488355328 by
          rw [HJ.out]
          have := rekW_len ws HOK.out
          rw [HLEN.out] at this
          simp
          omega)
        go_wp2_with fail
        refine (join_any [32] hS (by simp [HLEN.out]; omega) HJL.out (by omega)).mono ?_
        rintro e w5 ⟨rfl, hb5⟩
        have B5 := hidT (BR.out.trans (hb5.mono BR.out.size))
        clear hb5
        go_wp2
        go_ret
        refine ⟨?_, B5.out⟩
        rw [HT.out, HJ.out]
        rfl
end Tx
end Go.Proofs.YtmlmlmcmhpahpaaDoor
