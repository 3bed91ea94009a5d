/- Contracts of KidsOf, of the program and of the model: both answer the kids of a node, in new memory. -/
import Derived.Test.YtgddobdpibnkeaaPart2
import Derived.Test.YtgddobdpibnkeaaPart0
import Derived.Test.YtgddobdpibnkeaaPart1
import Derived.Test.YtgddobdpibnkeaaPart3
import Derived.Deep.RegionHeld3
import Derived.Deep.MidRow
namespace Go.Proofs.Ytgddobdpibnkeaa
open Go.RowKit

def kids (n : Int) : List Int := if 1 ≤ n ∧ n ≤ 7 then [2 * n, 2 * n + 1] else []
def kidsTo (n : Int) (k : Nat) : List Int := ((List.range k).filter fun j => decide (par j = n)).map fun (j : Nat) => (j : Int)
theorem kidsTo_le (n : Int) (k : Nat) : (kidsTo n k).length ≤ k := by
  unfold kidsTo
  have := List.length_filter_le (fun j => decide (par j = n)) (List.range k)
  simp at this ⊢
  exact this
theorem kidsTo_hit (n : Int) (k : Nat) (h : par k = n) : kidsTo n (k + 1) = kidsTo n k ++ [(k : Int)] := by simp [kidsTo, List.range_succ, h]
theorem kidsTo_miss (n : Int) (k : Nat) (h : par k ≠ n) : kidsTo n (k + 1) = kidsTo n k := by simp [kidsTo, List.range_succ, h]
theorem kidsTo_end (n : Int) (h0 : 1 ≤ n) (h1 : n ≤ 15) : kidsTo n 16 = kids n := by
  have : n = 1 ∨ n = 2 ∨ n = 3 ∨ n = 4 ∨ n = 5 ∨ n = 6 ∨ n = 7 ∨ n = 8 ∨ n = 9 ∨ n = 10 ∨ n = 11 ∨ n = 12 ∨ n = 13 ∨ n = 14 ∨ n = 15 := by omega
  rcases this with rfl | rfl | rfl | rfl | rfl | rfl | rfl | rfl | rfl | rfl | rfl | rfl | rfl | rfl | rfl <;> decide
theorem index_tree0 (w : World) : (Instr.index 93 (.agg treeCells) (.int .i64 0)).run Try.prog w = .ok (.int .i64 0) w := by kernel_rfl
theorem index_tree1 (w : World) : (Instr.index 93 (.agg treeCells) (.int .i64 1)).run Try.prog w = .ok (.int .i64 0) w := by kernel_rfl
theorem index_tree2 (w : World) : (Instr.index 93 (.agg treeCells) (.int .i64 2)).run Try.prog w = .ok (.int .i64 1) w := by kernel_rfl
theorem index_tree3 (w : World) : (Instr.index 93 (.agg treeCells) (.int .i64 3)).run Try.prog w = .ok (.int .i64 1) w := by kernel_rfl
theorem index_tree4 (w : World) : (Instr.index 93 (.agg treeCells) (.int .i64 4)).run Try.prog w = .ok (.int .i64 2) w := by kernel_rfl
theorem index_tree5 (w : World) : (Instr.index 93 (.agg treeCells) (.int .i64 5)).run Try.prog w = .ok (.int .i64 2) w := by kernel_rfl
theorem index_tree6 (w : World) : (Instr.index 93 (.agg treeCells) (.int .i64 6)).run Try.prog w = .ok (.int .i64 3) w := by kernel_rfl
theorem index_tree7 (w : World) : (Instr.index 93 (.agg treeCells) (.int .i64 7)).run Try.prog w = .ok (.int .i64 3) w := by kernel_rfl
theorem index_tree8 (w : World) : (Instr.index 93 (.agg treeCells) (.int .i64 8)).run Try.prog w = .ok (.int .i64 4) w := by kernel_rfl
theorem index_tree9 (w : World) : (Instr.index 93 (.agg treeCells) (.int .i64 9)).run Try.prog w = .ok (.int .i64 4) w := by kernel_rfl
theorem index_tree10 (w : World) : (Instr.index 93 (.agg treeCells) (.int .i64 10)).run Try.prog w = .ok (.int .i64 5) w := by kernel_rfl
theorem index_tree11 (w : World) : (Instr.index 93 (.agg treeCells) (.int .i64 11)).run Try.prog w = .ok (.int .i64 5) w := by kernel_rfl
theorem index_tree12 (w : World) : (Instr.index 93 (.agg treeCells) (.int .i64 12)).run Try.prog w = .ok (.int .i64 6) w := by kernel_rfl
theorem index_tree13 (w : World) : (Instr.index 93 (.agg treeCells) (.int .i64 13)).run Try.prog w = .ok (.int .i64 6) w := by kernel_rfl
theorem index_tree14 (w : World) : (Instr.index 93 (.agg treeCells) (.int .i64 14)).run Try.prog w = .ok (.int .i64 7) w := by kernel_rfl
theorem index_tree15 (w : World) : (Instr.index 93 (.agg treeCells) (.int .i64 15)).run Try.prog w = .ok (.int .i64 7) w := by kernel_rfl
theorem index_tree (k : Nat) (h : k < 16) (w : World) : (Instr.index 93 (.agg treeCells) (.int .i64 (k : Int))).run Try.prog w = .ok (.int .i64 (par k)) w := by
  have : k = 0 ∨ k = 1 ∨ k = 2 ∨ k = 3 ∨ k = 4 ∨ k = 5 ∨ k = 6 ∨ k = 7 ∨ k = 8 ∨ k = 9 ∨ k = 10 ∨ k = 11 ∨ k = 12 ∨ k = 13 ∨ k = 14 ∨ k = 15 := by omega
  rcases this with rfl | rfl | rfl | rfl | rfl | rfl | rfl | rfl | rfl | rfl | rfl | rfl | rfl | rfl | rfl | rfl
  · exact index_tree0 w
  · exact index_tree1 w
  · exact index_tree2 w
  · exact index_tree3 w
  · exact index_tree4 w
  · exact index_tree5 w
  · exact index_tree6 w
  · exact index_tree7 w
  · exact index_tree8 w
  · exact index_tree9 w
  · exact index_tree10 w
  · exact index_tree11 w
  · exact index_tree12 w
  · exact index_tree13 w
  · exact index_tree14 w
  · exact index_tree15 w

theorem specKidsOf_any (n : Int) (w : World) :
    Calls Try.prog 169 #[.int .i64 n] w fun e w' => ∃ v, e = .returned v ∧ Ints w.heap.size v (kids n) w' ∧ Below w.heap.size w w' := by
  by_cases hn : 1 ≤ n ∧ n ≤ 7
  · have hd : decide (1 ≤ n ∧ n ≤ 7) = true := decide_eq_true hn
    have hk : kids n = [2 * n, 2 * n + 1] := by unfold kids; rw [if_pos hn]
    rw [hk]
    obtain ⟨h1, h2⟩ := hn
    go_enter Try.func169, Try.ntmps169
    go_wp2_with fail
    refine (l1In_any _ _ _ _).mono ?_
    rintro e w' ⟨rfl, rfl⟩
    rw [hd]
    go_wp2
    go_ret
    exact ⟨_, rfl, World.ownsRow_lit w' #[.int .i64 (2 * n), .int .i64 (2 * n + 1)] 2 (Nat.le_refl _) (by decide) rfl, (Below.refl _ _).alloc (Nat.le_refl _) _⟩
  · have hd : decide (1 ≤ n ∧ n ≤ 7) = false := decide_eq_false hn
    have hk : kids n = [] := by unfold kids; rw [if_neg hn]
    rw [hk]
    go_enter Try.func169, Try.ntmps169
    go_wp2_with fail
    refine (l1In_any _ _ _ _).mono ?_
    rintro e w' ⟨rfl, rfl⟩
    rw [hd]
    go_wp2
    go_ret
    exact ⟨_, rfl, World.ownsRow_lit w' #[] 0 (Nat.le_refl _) (by decide) rfl, (Below.refl _ _).alloc (Nat.le_refl _) _⟩
end Go.Proofs.Ytgddobdpibnkeaa
/- Lists of wraps in memory; the contracts of WrapsOk, of the program and of the model. -/
namespace Go.Proofs.Ytgddobdpibnkeaa
open Go.RowKit

/-- A wrap: the key under which, the key. -/
abbrev W4 := Int × Int × Int × Int
abbrev wv (a b c d : Int) : Value := .agg #[.int .i64 a, .int .i64 b, .int .i64 c, .int .i64 d]
abbrev wb (a b c d : Int) : Obj := .cells #[.int .i64 a, .int .i64 b, .int .i64 c, .int .i64 d] 180
def wcells (ws : List W4) : List Value := ws.flatMap fun k => [.int .i64 k.1, .int .i64 k.2.1, .int .i64 k.2.2.1, .int .i64 k.2.2.2]
theorem wcells_length (ws : List W4) : (wcells ws).length = ws.length * 4 := by
  induction ws with
  | nil => rfl
  | cons k ws ih => simp only [wcells, List.flatMap_cons, List.length_append, List.length_cons, List.length_nil] at ih ⊢; omega
theorem wcells_append (a b : List W4) : wcells (a ++ b) = wcells a ++ wcells b := by simp [wcells]
theorem wcells_get (ws : List W4) : ∀ i (hi : i < ws.length), (wcells ws)[i * 4]? = some (.int .i64 ws[i].1) ∧ (wcells ws)[i * 4 + 1]? = some (.int .i64 ws[i].2.1) ∧ (wcells ws)[i * 4 + 2]? = some (.int .i64 ws[i].2.2.1) ∧ (wcells ws)[i * 4 + 3]? = some (.int .i64 ws[i].2.2.2) := by
  induction ws with
  | nil => intro i hi; simp at hi
  | cons k ws ih =>
    intro i hi
    match i, hi with
    | 0, _ => simp [wcells]
    | i + 1, hi =>
      have := ih i (by simpa using hi)
      have e0 : (i + 1) * 4 = i * 4 + 1 + 1 + 1 + 1 := by omega
      have e1 : (i + 1) * 4 + 1 = i * 4 + 1 + 1 + 1 + 1 + 1 := by omega
      have e2 : (i + 1) * 4 + 2 = i * 4 + 2 + 1 + 1 + 1 + 1 := by omega
      have e3 : (i + 1) * 4 + 3 = i * 4 + 3 + 1 + 1 + 1 + 1 := by omega
      rw [e1, e2, e3, e0]
      simpa [wcells] using this

/-- The slice v holds the wraps ws, in a block at or beyond B. -/
def Wraps (B : Nat) (v : Value) (ws : List W4) (W : World) : Prop := W.ownsRow B 180 4 v ws.length (wcells ws)
theorem Wraps.mono {B B' : Nat} {v : Value} {ws : List W4} {W : World} (h : Wraps B v ws W) (hB : B' ≤ B) : Wraps B' v ws W := by
  refine ⟨h.1, ?_⟩
  rcases h.2 with hn | ⟨g, cap, cur, e, hb, rest⟩
  · exact .inl hn
  · exact .inr ⟨g, cap, cur, e, by omega, rest⟩
theorem Wraps.lt {B : Nat} {v : Value} {ws : List W4} {W : World} (h : Wraps B v ws W) : ∀ k, v.ownBlock = some k → B ≤ k ∧ k < W.heap.size := World.ownsRow.lt h
theorem Wraps.below {B C : Nat} {v : Value} {ws : List W4} {W W' : World} (h : Wraps B v ws W) (hb : Below C W W') (hC : ∀ k, v.ownBlock = some k → k < C) : Wraps B v ws W' := by
  refine ⟨h.1, ?_⟩
  rcases h.2 with hn | ⟨g, cap, cur, rfl, hb', hg, rest⟩
  · exact .inl hn
  · refine .inr ⟨g, cap, cur, rfl, hb', ?_, rest⟩
    rw [hb.block g (hC g rfl)]
    exact hg
/-- Wraps lie in block b from offset 'off' on. -/
def WSeg (b off : Nat) (ws : List W4) (W : World) : Prop :=
  ∀ i (hi : i < ws.length), W.cell? ⟨b, off + i * 4, none⟩ = some (.int .i64 ws[i].1) ∧ W.cell? ⟨b, off + i * 4 + 1, none⟩ = some (.int .i64 ws[i].2.1) ∧ W.cell? ⟨b, off + i * 4 + 2, none⟩ = some (.int .i64 ws[i].2.2.1) ∧ W.cell? ⟨b, off + i * 4 + 3, none⟩ = some (.int .i64 ws[i].2.2.2)
theorem WSeg.kept {b off : Nat} {ws : List W4} {W W' : World} (h : WSeg b off ws W) (hb : W'.heap[b]? = W.heap[b]?) : WSeg b off ws W' := fun i hi =>
  ⟨(World.cell?_of_block (a := ⟨b, off + i * 4, none⟩) hb).trans (h i hi).1, (World.cell?_of_block (a := ⟨b, off + i * 4 + 1, none⟩) hb).trans (h i hi).2.1,
    (World.cell?_of_block (a := ⟨b, off + i * 4 + 2, none⟩) hb).trans (h i hi).2.2.1, (World.cell?_of_block (a := ⟨b, off + i * 4 + 3, none⟩) hb).trans (h i hi).2.2.2⟩

theorem Wraps.form {B : Nat} {v : Value} {ws : List W4} {W : World} (h : Wraps B v ws W) :
    (v = .slice none 0 0 ∧ ws = []) ∨ ∃ g cap, v = .slice (some ⟨g, 0, none⟩) ws.length cap ∧ B ≤ g ∧ g < W.heap.size ∧ ws.length ≤ cap ∧ cap ≤ maxLen ∧ WSeg g 0 ws W ∧ ∀ o, W.frozen? ⟨g, o, none⟩ = false := by
  obtain ⟨_, h2⟩ := h
  rcases h2 with ⟨e, hn⟩ | ⟨g, cap, cur, e, hb, hg, h1, h3, h4, h5⟩
  · exact .inl ⟨e, List.length_eq_zero_iff.1 hn⟩
  · refine .inr ⟨g, cap, e, hb, (Array.getElem?_eq_some_iff.1 hg).1, h1, h3, fun i hi => ?_, fun o => by simp [World.frozen?, hg]⟩
    have hk := wcells_get ws i hi
    have cc : ∀ j u, j < ws.length * 4 → (wcells ws)[j]? = some u → cur[j]? = some u := fun j u hj h => by
      rw [← h5, List.getElem?_take_of_lt hj] at h
      simpa using h
    have c0 := cc _ _ (by omega) hk.1
    have c1 := cc _ _ (by omega) hk.2.1
    have c2 := cc _ _ (by omega) hk.2.2.1
    have c3 := cc _ _ (by omega) hk.2.2.2
    exact ⟨by simp [World.cell?, hg, c0], by simp [World.cell?, hg, c1], by simp [World.cell?, hg, c2], by simp [World.cell?, hg, c3]⟩

def wAt (ws : List W4) (i : Nat) : W4 := ws.getD i (0, 0, 0, 0)
def okW (k : W4) : Bool := okK k.1 k.2.1 && okK k.2.2.1 k.2.2.2
def wrapsTo (ws : List W4) (m : Nat) : Bool := (ws.take m).all okW
theorem wrapsTo_succ (ws : List W4) (m : Nat) (h : m < ws.length) : wrapsTo ws (m + 1) = (wrapsTo ws m && okW ws[m]) := by
  unfold wrapsTo
  rw [List.take_succ_eq_append_getElem h, List.all_append]
  simp only [List.all_cons, List.all_nil, Bool.and_true]
def wrapsB (ws : List W4) : Bool := decide (ws.length ≤ 400) && ws.all okW
theorem wrapsB_false {ws : List W4} {m : Nat} (hm : m < ws.length) (h : okW ws[m] = false) : wrapsB ws = false := by
  have : ws.all okW = false := by
    simp only [List.all_eq_false]
    exact ⟨ws[m], List.getElem_mem hm, by simp [h]⟩
  simp [wrapsB, this]

theorem specWrapsOk_none (a : Option Addr) (c : Nat) (w : World) :
    Calls Try.prog 108 #[.slice a 0 c] w fun e w' => e = .returned (.bool true) ∧ w' = w := by
  go_enter Try.func108, Try.ntmps108
  go_wp2
  refine wp_loop_rounds 1 ?_
  rw [rounds_succ]
  go_wp2
  go_ret
  exact ⟨by simp, rfl⟩
theorem wrapsOk_none (a : Option Addr) (c : Nat) (w : World) :
    Calls Try.prog 133 #[.slice a 0 c] w fun e w' => e = .returned (.bool true) ∧ w' = w := by
  go_enter Try.func133, Try.ntmps133
  go_wp2
  refine wp_loop_rounds 1 ?_
  rw [rounds_succ]
  go_wp2
  go_ret
  exact ⟨by simp, rfl⟩

set_option maxHeartbeats 1000000 in
theorem specWrapsOk_row (g c : Nat) (ws : List W4) (w : World) (hm : ws.length ≤ maxLen) (hg : g < w.heap.size) (h1 : WSeg g 0 ws w) :
    Calls Try.prog 108 #[.slice (some ⟨g, 0, none⟩) ws.length c] w fun e w' => e = .returned (.bool (wrapsB ws)) ∧ Below w.heap.size w w' := by
  unfold maxLen at hm
  generalize hn : ws.length = n at hm ⊢
  go_enter Try.func108, Try.ntmps108
  go_wp2
  go_loopw [3] (fun i wr => ∃ k : Nat, k ≤ n ∧ i = .int .i64 k ∧ wrapsTo ws k = true ∧ Below w.heap.size w wr) (fun i _ => n - (intOf i).toNat)
  case atStart => exact ⟨0, Nat.zero_le _, rfl, rfl, Below.refl _ _⟩
  case round =>
    obtain ⟨k, hk, rfl, hpre, hB⟩ := hrel
    have HP : Hid (wrapsTo ws k = true) := hpre
    have H1 : Hid (WSeg g 0 ws w) := h1
    clear hpre h1
    by_cases hlt : k < n
    · have hlk : k < ws.length := by omega
      obtain ⟨a1, a2, a3, a4⟩ := H1.out k hlk
      simp only [Nat.zero_add] at a1 a2 a3 a4
      have c1 : wr.cell? ⟨g, k * 4, none⟩ = some (.int .i64 ws[k].1) := (hB.cell (p := ⟨g, k * 4, none⟩) hg).trans a1
      have c2 : wr.cell? ⟨g, k * 4 + 1, none⟩ = some (.int .i64 ws[k].2.1) := (hB.cell (p := ⟨g, k * 4 + 1, none⟩) hg).trans a2
      have c3 : wr.cell? ⟨g, k * 4 + 2, none⟩ = some (.int .i64 ws[k].2.2.1) := (hB.cell (p := ⟨g, k * 4 + 2, none⟩) hg).trans a3
      have c4 : wr.cell? ⟨g, k * 4 + 3, none⟩ = some (.int .i64 ws[k].2.2.2) := (hB.cell (p := ⟨g, k * 4 + 3, none⟩) hg).trans a4
      have hsz := hB.size
      have HO : Hid (okW ws[k] = (okK ws[k].1 ws[k].2.1 && okK ws[k].2.2.1 ws[k].2.2.2)) := show okW ws[k] = _ from rfl
      have HS : Hid (wrapsTo ws (k + 1) = (wrapsTo ws k && okW ws[k])) := wrapsTo_succ ws k hlk
      have HF : Hid (okW ws[k] = false → wrapsB ws = false) := wrapsB_false hlk
      clear a1 a2 a3 a4
      generalize okW ws[k] = okw at HO HS HF
      generalize ws[k].1 = x1 at c1 HO
      generalize ws[k].2.1 = x2 at c2 HO
      generalize ws[k].2.2.1 = x3 at c3 HO
      generalize ws[k].2.2.2 = x4 at c4 HO
      go_wp2_with fail
      refine (l2Key_below x1 x2 _).mono ?_
      rintro e w1 ⟨rfl, hb1⟩
      cases hok : okK x1 x2 with
      | false =>
        have hBf := hB.trans (hb1.mono hsz)
        go_wp2
        go_ret
        refine ⟨?_, hBf⟩
        show Ending.returned (.bool false) = _
        rw [HF.out (by rw [HO.out, hok]; rfl)]
      | true =>
        have d3 := cell_since c3 hb1
        have d4 := cell_since c4 hb1
        have hBf := hB.trans (hb1.mono hsz)
        clear c1 c2 c3 c4 hB
        go_wp2_with fail
        refine (l2Key_below x3 x4 _).mono ?_
        rintro e w2 ⟨rfl, hb2⟩
        have hBg := hBf.trans (hb2.mono hBf.size)
        clear d3 d4 hBf
        cases hok2 : okK x3 x4 with
        | false =>
          go_wp2
          go_ret
          refine ⟨?_, hBg⟩
          show Ending.returned (.bool false) = _
          rw [HF.out (by rw [HO.out, hok, hok2]; rfl)]
        | true =>
          have HA : Hid (wrapsTo ws (k + 1) = true) := by
            show wrapsTo ws (k + 1) = true
            rw [HS.out, HP.out, HO.out, hok, hok2]; rfl
          go_wp2
          go_roundw
          case rel => exact ⟨k + 1, by omega, by go_num, HA.out, hBg⟩
          case measure => simp [intOf]; omega
    · have hke : k = n := by omega
      have hkb : wrapsB ws = decide (n ≤ 400) := by
        have : ws.all okW = true := by have := HP.out; unfold wrapsTo at this; rwa [List.take_of_length_le (by omega)] at this
        unfold wrapsB; rw [hn, this]; simp
      have HKB : Hid _ := hkb
      clear hkb
      go_wp2
      go_ret
      refine ⟨?_, hB⟩
      rw [HKB.out]
      have e : decide ((n : Int) ≤ 400) = decide (n ≤ 400) := by rw [decide_eq_decide]; omega
      rw [← e]
      rfl
end Go.Proofs.Ytgddobdpibnkeaa
/- The contract of WrapsOk of the program. -/
namespace Go.Proofs.Ytgddobdpibnkeaa
open Go.RowKit

set_option maxHeartbeats 1000000 in
theorem wrapsOk_row (g c : Nat) (ws : List W4) (w : World) (hm : ws.length ≤ maxLen) (hg : g < w.heap.size) (h1 : WSeg g 0 ws w) :
    Calls Try.prog 133 #[.slice (some ⟨g, 0, none⟩) ws.length c] w fun e w' => e = .returned (.bool (wrapsB ws)) ∧ Below w.heap.size w w' := by
  unfold maxLen at hm
  generalize hn : ws.length = n at hm ⊢
  by_cases h400 : (400 : Int) < (n : Int)
  · have hkf : wrapsB ws = false := by unfold wrapsB; rw [hn, decide_eq_false (by omega)]; rfl
    rw [hkf]
    go_enter Try.func133, Try.ntmps133
    go_wp2
    go_ret
    exact ⟨rfl, Below.refl _ _⟩
  go_enter Try.func133, Try.ntmps133
  go_wp2
  go_loopw [10] (fun i wr => ∃ k : Nat, k ≤ n ∧ i = .int .i64 k ∧ wrapsTo ws k = true ∧ Below w.heap.size w wr) (fun i _ => n - (intOf i).toNat)
  case atStart => exact ⟨0, Nat.zero_le _, rfl, rfl, Below.refl _ _⟩
  case round =>
    obtain ⟨k, hk, rfl, hpre, hB⟩ := hrel
    have HP : Hid (wrapsTo ws k = true) := hpre
    have H1 : Hid (WSeg g 0 ws w) := h1
    clear hpre h1
    by_cases hlt : k < n
    · have hlk : k < ws.length := by omega
      obtain ⟨a1, a2, a3, a4⟩ := H1.out k hlk
      simp only [Nat.zero_add] at a1 a2 a3 a4
      have c1 : wr.cell? ⟨g, k * 4, none⟩ = some (.int .i64 ws[k].1) := (hB.cell (p := ⟨g, k * 4, none⟩) hg).trans a1
      have c2 : wr.cell? ⟨g, k * 4 + 1, none⟩ = some (.int .i64 ws[k].2.1) := (hB.cell (p := ⟨g, k * 4 + 1, none⟩) hg).trans a2
      have c3 : wr.cell? ⟨g, k * 4 + 2, none⟩ = some (.int .i64 ws[k].2.2.1) := (hB.cell (p := ⟨g, k * 4 + 2, none⟩) hg).trans a3
      have c4 : wr.cell? ⟨g, k * 4 + 3, none⟩ = some (.int .i64 ws[k].2.2.2) := (hB.cell (p := ⟨g, k * 4 + 3, none⟩) hg).trans a4
      have hsz := hB.size
      have HO : Hid (okW ws[k] = (okK ws[k].1 ws[k].2.1 && okK ws[k].2.2.1 ws[k].2.2.2)) := show okW ws[k] = _ from rfl
      have HS : Hid (wrapsTo ws (k + 1) = (wrapsTo ws k && okW ws[k])) := wrapsTo_succ ws k hlk
      have HF : Hid (okW ws[k] = false → wrapsB ws = false) := wrapsB_false hlk
      clear a1 a2 a3 a4
      generalize okW ws[k] = okw at HO HS HF
      generalize ws[k].1 = x1 at c1 HO
      generalize ws[k].2.1 = x2 at c2 HO
      generalize ws[k].2.2.1 = x3 at c3 HO
      generalize ws[k].2.2.2 = x4 at c4 HO
      go_wp2_with fail
      refine (keyOk_below x1 x2 _).mono ?_
      rintro e w1 ⟨rfl, hb1⟩
      cases hok : okK x1 x2 with
      | false =>
        have hBf := (hB.alloc hsz (wb x1 x2 x3 x4)).trans (hb1.mono (by simp; omega))
        go_wp2
        go_ret
        refine ⟨?_, hBf⟩
        show Ending.returned (.bool false) = _
        rw [HF.out (by rw [HO.out, hok]; rfl)]
      | true =>
        have d3 : w1.cell? ⟨wr.heap.size, 2, none⟩ = some (.int .i64 x3) := cell_since (W := wr.alloc (wb x1 x2 x3 x4)) (by simp) hb1
        have d4 : w1.cell? ⟨wr.heap.size, 3, none⟩ = some (.int .i64 x4) := cell_since (W := wr.alloc (wb x1 x2 x3 x4)) (by simp) hb1
        have hBf := (hB.alloc hsz (wb x1 x2 x3 x4)).trans (hb1.mono (by simp; omega))
        clear c1 c2 c3 c4 hB
        go_wp2_with fail
        refine (keyOk_below x3 x4 _).mono ?_
        rintro e w2 ⟨rfl, hb2⟩
        have hBg := hBf.trans (hb2.mono hBf.size)
        clear d3 d4 hBf
        cases hok2 : okK x3 x4 with
        | false =>
          go_wp2
          go_ret
          refine ⟨?_, hBg⟩
          show Ending.returned (.bool false) = _
          rw [HF.out (by rw [HO.out, hok, hok2]; rfl)]
        | true =>
          have HA : Hid (wrapsTo ws (k + 1) = true) := by
            show wrapsTo ws (k + 1) = true
            rw [HS.out, HP.out, HO.out, hok, hok2]; rfl
          go_wp2
          go_roundw
          case rel => exact ⟨k + 1, by omega, by go_num, HA.out, hBg⟩
          case measure => simp [intOf]; omega
    · have hke : k = n := by omega
      have hkb : wrapsB ws = true := by
        have : ws.all okW = true := by have := HP.out; unfold wrapsTo at this; rwa [List.take_of_length_le (by omega)] at this
        unfold wrapsB; rw [hn, this, decide_eq_true (by omega)]; rfl
      have HKB : Hid _ := hkb
      clear hkb
      go_wp2
      go_ret
      refine ⟨?_, hB⟩
      rw [HKB.out]
      rfl

theorem specWrapsOk_any {B : Nat} {v : Value} {ws : List W4} {w : World} (h : Wraps B v ws w) :
    Calls Try.prog 108 #[v] w fun e w' => e = .returned (.bool (wrapsB ws)) ∧ Below w.heap.size w w' := by
  rcases h.form with ⟨rfl, rfl⟩ | ⟨g, cap, rfl, _, g1, h1, h2, h3, _⟩
  · exact (specWrapsOk_none _ _ w).mono fun _ _ h => ⟨h.1, h.2 ▸ Below.refl _ _⟩
  · exact specWrapsOk_row g cap ws w (by omega) g1 h3
theorem wrapsOk_any {B : Nat} {v : Value} {ws : List W4} {w : World} (h : Wraps B v ws w) :
    Calls Try.prog 133 #[v] w fun e w' => e = .returned (.bool (wrapsB ws)) ∧ Below w.heap.size w w' := by
  rcases h.form with ⟨rfl, rfl⟩ | ⟨g, cap, rfl, _, g1, h1, h2, h3, _⟩
  · exact (wrapsOk_none _ _ w).mono fun _ _ h => ⟨h.1, h.2 ▸ Below.refl _ _⟩
  · exact wrapsOk_row g cap ws w (by omega) g1 h3
end Go.Proofs.Ytgddobdpibnkeaa
/- l3Down of the model: wraps appended, and nothing else that was there turns. -/
namespace Go.Proofs.Ytgddobdpibnkeaa
open Go.RowKit

theorem rows_ne {r s : RowF} {W : World} (hr : r.on W) (hs : s.on W) (ht : r.t ≠ s.t) : ∀ k, r.v.ownBlock = some k → s.v.ownBlock ≠ some k := fun k e e' => by
  have hat : ∀ {s : RowF}, s.on W → s.v.ownBlock = some k → ∃ cur, W.heap[k]? = some (.cells cur s.t (0, 0)) := fun {s} hs e => by
    rcases hs.2 with ⟨hv, _⟩ | ⟨g, cap, cur, hv, _, hgk, _⟩
    · rw [hv] at e
      simp [Value.ownBlock] at e
    · rw [hv] at e
      simp [Value.ownBlock] at e
      subst e
      exact ⟨cur, hgk⟩
  obtain ⟨c1, h1⟩ := hat hr e
  obtain ⟨c2, h2⟩ := hat hs e'
  rw [h1] at h2
  injection h2 with h2
  injection h2 with _ h2 _
  exact ht h2
theorem row_box {r : RowF} {W : World} {p : Nat} {o : Obj} (hr : r.on W) (ho : W.heap[p]? = some o) (ht : objType o ≠ some r.t) : r.v.ownBlock ≠ some p := fun e => by
  rcases hr.2 with ⟨hv, _⟩ | ⟨g, cap, cur, hv, _, hgk, _⟩
  · rw [hv] at e
    simp [Value.ownBlock] at e
  · rw [hv] at e
    simp [Value.ownBlock] at e
    subst e
    rw [hgk] at ho
    injection ho with ho
    exact ht (by rw [← ho]; rfl)
abbrev fI (B : Nat) (v : Value) (xs : List Int) : RowF := ⟨B, 2, 1, v, xs.length, xs.map (Value.int .i64)⟩
abbrev fS (B : Nat) (v : Value) (ks : List (Int × Int)) : RowF := ⟨B, 88, 2, v, ks.length, kcells ks⟩
abbrev fW (B : Nat) (v : Value) (ks : List W4) : RowF := ⟨B, 180, 4, v, ks.length, wcells ks⟩
abbrev fK (B : Nat) (v : Value) (ks : List (Int × Int)) : RowF := ⟨B, 37, 2, v, ks.length, kcells ks⟩
theorem ne_wi {B C : Nat} {v u : Value} {ws : List W4} {xs : List Int} {W : World} (h : Wraps B v ws W) (h' : Ints C u xs W) : ∀ k, v.ownBlock = some k → u.ownBlock ≠ some k := rows_ne (r := fW B v ws) (s := fI C u xs) h h' (show (180 : TypeId) ≠ 2 by decide)
theorem ne_ws {B C : Nat} {v u : Value} {ws : List W4} {xs : List (Int × Int)} {W : World} (h : Wraps B v ws W) (h' : Seats C u xs W) : ∀ k, v.ownBlock = some k → u.ownBlock ≠ some k := rows_ne (r := fW B v ws) (s := fS C u xs) h h' (show (180 : TypeId) ≠ 88 by decide)
theorem kids_ok (n : Int) : (kids n).length ≤ 2 ∧ (0 < (kids n).length → 1 ≤ n ∧ n ≤ 7) ∧ ∀ i (hi : i < (kids n).length), 1 ≤ (kids n)[i] ∧ (kids n)[i] ≤ 15 := by
  unfold kids
  split
  · rename_i h
    refine ⟨by simp, fun _ => h, fun i hi => ?_⟩
    simp at hi
    rcases (show i = 0 ∨ i = 1 by omega) with rfl | rfl <;> simp <;> omega
  · exact ⟨by simp, fun h => by simp at h, fun i hi => by simp at hi⟩
theorem wrapsS {B : Nat} {v : Value} {ws : List W4} {W W' : World} (h : Wraps B v ws W) (hb : Below W.heap.size W W') : Wraps B v ws W' := RowF.since (r := fW B v ws) h hb
theorem wrapsG {B : Nat} {v : Value} {ws : List W4} {W W' : World} {row : Option Nat} (h : Wraps B v ws W) (hg : W.grownBy W' row) (hne : ∀ k, row = some k → v.ownBlock ≠ some k) : Wraps B v ws W' := RowF.kept (r := fW B v ws) h hg hne
theorem infoW4 : (Try.prog.info? 180).map (fun i => (i.zero, i.size, i.bytes)) = some (some (.agg #[.int .i64 0, .int .i64 0, .int .i64 0, .int .i64 0]), 4, 32) := by kernel_rfl

/-- What the loop holds: since w1 nothing has turned but the wraps' block; the wraps lie in a row of their own. -/
def DnIs (w1 : World) (row : Option Nat) (B : Nat) (v : Value) (N : Nat) (W : World) : Prop := w1.grownBy W row ∧ (∃ ws, Wraps B v ws W ∧ ws.length ≤ N) ∧ (∀ k, v.ownBlock = some k → row = some k ∨ w1.heap.size ≤ k)
theorem DnIs.since {w1 W W' : World} {row : Option Nat} {B N : Nat} {v : Value} (h : DnIs w1 row B v N W) (hb : Below W.heap.size W W') : DnIs w1 row B v N W' := by
  obtain ⟨h1, ⟨ws, h2, h4⟩, h3⟩ := h
  exact ⟨h1.trans (grown_below hb row), ⟨ws, wrapsS h2 hb, h4⟩, h3⟩
theorem DnIs.cell {w1 W : World} {row : Option Nat} {B N : Nat} {v u : Value} {a : Addr} (h : DnIs w1 row B v N W) (hc : w1.cell? a = some u) (hne : some a.block ≠ row) : W.cell? a = some u := h.1.cell hc hne
end Go.Proofs.Ytgddobdpibnkeaa
/- l3Down of the model. -/
namespace Go.Proofs.Ytgddobdpibnkeaa
open Go.RowKit

theorem gr4 {w2 W W' : World} {row : Option Nat} {p1 p2 p3 p4 : Addr} {v1 v2 v3 v4 : Value} (h : W.cell? p1 = some v1 ∧ W.cell? p2 = some v2 ∧ W.cell? p3 = some v3 ∧ W.cell? p4 = some v4 ∧ w2.grownBy W row) (hb : Below W.heap.size W W') :
    W'.cell? p1 = some v1 ∧ W'.cell? p2 = some v2 ∧ W'.cell? p3 = some v3 ∧ W'.cell? p4 = some v4 ∧ w2.grownBy W' row := ⟨cell_since h.1 hb, cell_since h.2.1 hb, cell_since h.2.2.1 hb, cell_since h.2.2.2.1 hb, h.2.2.2.2.trans (grown_below hb row)⟩
theorem grown_via {w2 W W' : World} {row u : Option Nat} (h : w2.grownBy W row) (hg : W.grownBy W' u) (hu : ∀ k, u = some k → row = some k ∨ w2.heap.size ≤ k) : w2.grownBy W' row :=
  ⟨hg.os.trans h.os, hg.tape.trans h.tape, hg.output.trans h.output, Nat.le_trans h.size hg.size, fun k hk hne => by
    rw [hg.block k (Nat.lt_of_lt_of_le hk h.size) (fun e => by rcases hu k e.symm with h' | h'; exact hne h'.symm; omega)]
    exact h.block k hk hne⟩
theorem gr4_app {w2 W W' : World} {row u : Option Nat} {p1 p2 p3 p4 : Addr} {v1 v2 v3 v4 : Value} (h : W.cell? p1 = some v1 ∧ W.cell? p2 = some v2 ∧ W.cell? p3 = some v3 ∧ W.cell? p4 = some v4 ∧ w2.grownBy W row) (hg : W.grownBy W' u) (hu : ∀ k, u = some k → row = some k ∨ w2.heap.size ≤ k)
    (h1 : some p1.block ≠ u) (h2 : some p2.block ≠ u) (h3 : some p3.block ≠ u) (h4 : some p4.block ≠ u) :
    W'.cell? p1 = some v1 ∧ W'.cell? p2 = some v2 ∧ W'.cell? p3 = some v3 ∧ W'.cell? p4 = some v4 ∧ w2.grownBy W' row := ⟨hg.cell h.1 h1, hg.cell h.2.1 h2, hg.cell h.2.2.1 h3, hg.cell h.2.2.2.1 h4, grown_via h.2.2.2.2 hg hu⟩
theorem wrap_cells4 (W : World) (a b c d : Int) : ∀ j u, [Value.int .i64 a, Value.int .i64 b, Value.int .i64 c, Value.int .i64 d][j]? = some u → (W.alloc (.cells #[.int .i64 a, .int .i64 b, .int .i64 c, .int .i64 d] 180)).cell? ((⟨W.heap.size, 0, none⟩ : Addr).add j) = some u := by
  intro j u h
  match j with
  | 0 => simp at h; subst h; simp [Addr.add]
  | 1 => simp at h; subst h; simp [Addr.add]
  | 2 => simp at h; subst h; simp [Addr.add]
  | 3 => simp at h; subst h; simp [Addr.add]
  | j + 4 => simp at h
theorem wraps_of {W : World} {B n : Nat} {v : Value} {ys : List Value} {xs : List W4} (h : W.ownsRow B 180 4 v n ys) (e : ys = wcells xs) (hn : xs.length = n) : Wraps B v xs W := by
  subst e hn
  exact h
theorem wraps_own {W : World} {B n : Nat} {v : Value} {xs : List W4} (h : Wraps B v xs W) (hn : xs.length = n) (o : Obj) : (W.alloc o).ownsRow B 180 4 v n (wcells xs) := by
  subst hn
  exact World.ownsRow.alloc h o
theorem wrapsF {B : Nat} {v : Value} {ws : List W4} {w : World} (h : Wraps B v ws w) : ∃ a c, v = .slice a ws.length c := by
  rcases h.form with ⟨rfl, rfl⟩ | ⟨g, cap, rfl, _⟩ <;> exact ⟨_, _, rfl⟩

theorem dn4 {w1 W W' : World} {row : Option Nat} {B N : Nat} {v : Value} {p1 p2 p3 p4 : Addr} {v1 v2 v3 v4 : Value} (h : W.cell? p1 = some v1 ∧ W.cell? p2 = some v2 ∧ W.cell? p3 = some v3 ∧ W.cell? p4 = some v4 ∧ DnIs w1 row B v N W) (hb : Below W.heap.size W W') :
    W'.cell? p1 = some v1 ∧ W'.cell? p2 = some v2 ∧ W'.cell? p3 = some v3 ∧ W'.cell? p4 = some v4 ∧ DnIs w1 row B v N W' := ⟨cell_since h.1 hb, cell_since h.2.1 hb, cell_since h.2.2.1 hb, cell_since h.2.2.2.1 hb, h.2.2.2.2.since hb⟩

set_option maxRecDepth 100000 in
set_option maxHeartbeats 4000000 in
theorem l3Down_any {A C B : Nat} {x y v : Value} {vs : List Int} {ss : List (Int × Int)} {ws : List W4} {w : World} (ep n : Int) (hn : 1 ≤ n ∧ n ≤ 15) (hl : vs.length = 15) (hx : Ints A x vs w) (hy : Seats C y ss w) (hw : Wraps B v ws w) (hB : B ≤ w.heap.size) (hlen : ws.length ≤ 100) :
    Calls Try.prog 156 #[svv ep x y, .int .i64 n, v] w fun e w' => ∃ v' ws', e = .returned v' ∧ Wraps B v' ws' w' ∧ ws'.length ≤ ws.length + 2 ∧ w.grownBy w' v.ownBlock := by
  obtain ⟨i0, hi, hz0, hz1, hz2⟩ := info_parts infoW4
  obtain ⟨c0, c1, c2⟩ := scell3 w ep x y
  have hB1 := one_below w (svb ep x y)
  have HS0 := hidS (show (w.alloc (svb ep x y)).heap.size = w.heap.size + 1 by simp)
  have X1 := hidS (hx.since hB1)
  have Y1 := hidS (hy.since hB1)
  have W1 := hidS (wrapsS hw hB1)
  have hwl : ∀ k, v.ownBlock = some k → k < w.heap.size := fun k e => (hw.lt k e).2
  obtain ⟨n', hn'⟩ : ∃ j : Nat, n = (j : Int) + 1 := ⟨(n - 1).toNat, by omega⟩
  subst hn'
  obtain ⟨hk1, hk2, hk3⟩ := kids_ok ((n' : Int) + 1)
  have hn15 : n' < 15 := by omega
  clear hx hy hw
  go_enter Try.func156, Try.ntmps156
  go_wp2_with fail
  generalize w.alloc (svb ep x y) = w1 at *
  refine (specKidsOf_any _ _).mono ?_
  rintro e w2 ⟨pv, rfl, hP, b2⟩
  have hB2 := more hB1 b2
  have hs1 := hB1.size
  have hs2 := hB2.size
  have hs12 := b2.size
  obtain ⟨ap, cp, hvp, hmp, hprow⟩ := hP.row
  subst hvp
  have c0 := cell_since c0 b2
  have c1 := cell_since c1 b2
  have c2 := cell_since c2 b2
  have X2 := hidS (X1.out.since b2)
  have Y2 := hidS (Y1.out.since b2)
  have D2 : Hid (DnIs w2 v.ownBlock B v (ws.length + 0) w2) := ⟨World.grownBy.refl _ _, ⟨ws, wrapsS W1.out b2, Nat.le_refl _⟩, fun k e => .inl e⟩
  have HP := hidS hprow
  have HK3 := hidS hk3
  have hvne : ∀ o, some (Addr.block ⟨w.heap.size, o, none⟩) ≠ v.ownBlock := fun o e => by have := hwl _ e.symm; dsimp only at this; omega
  have HG2 := hidS (grown_below hB2 v.ownBlock)
  have hpne : ∀ k, (Value.slice ap (kids ((n' : Int) + 1)).length cp).ownBlock = some k → v.ownBlock ≠ some k := fun k e e' => by have := hwl k e'; have := (hP.lt k e).1; omega
  clear X1 Y1 W1 b2 hP hprow hk3
  generalize kids ((n' : Int) + 1) = kd at *
  generalize hm2 : kd.length = m at hk1 hk2 hmp hpne ⊢
  have HM := hidS hm2
  clear hm2
  go_wp2
  go_loopw [2, 8] (fun wv i wr => ∃ k : Nat, k ≤ m ∧ i = .int .i64 (k : Int) ∧ Hid (DnIs w2 v.ownBlock B wv (ws.length + k) wr)) (fun _ i _ => m - (intOf i).toNat)
  case atStart => exact ⟨0, Nat.zero_le _, rfl, D2⟩
  case round =>
    obtain ⟨k, hk, rfl, HD⟩ := hrel
    by_cases hlt : k < m
    · obtain ⟨gp, hap, hgp, hpseg⟩ : ∃ g, ap = some ⟨g, 0, none⟩ ∧ g < w2.heap.size ∧ ISeg g 0 kd w2 := by
        rcases HP.out with e | e
        · have := HM.out; rw [e] at this; simp at this; omega
        · exact e
      subst hap
      have hkk : k < kd.length := by have := HM.out; omega
      have e1 := hpseg k hkk
      rw [Nat.zero_add] at e1
      have hkb := HK3.out k hkk
      obtain ⟨nd, hnd⟩ : ∃ nd : Nat, kd[k] = (nd : Int) + 1 := ⟨(kd[k] - 1).toNat, by omega⟩
      have hnd15 : nd < 15 := by omega
      rw [hnd] at e1
      clear hpseg hnd hkb
      have q0 := HD.out.cell c0 (hvne 0)
      have q1 := HD.out.cell c1 (hvne 1)
      have q2 := HD.out.cell c2 (hvne 2)
      have q3 := HD.out.cell e1 (fun e => hpne gp rfl e.symm)
      have hXn : ∀ kk, u2.ownBlock = some kk → True := fun _ _ => trivial
      have hX3 : Ints A x vs wr := X2.out.kept HD.out.1 (fun kk e e' => by
        obtain ⟨ws', hw', _⟩ := D2.out.2.1
        exact ne_wi hw' X2.out kk e e')
      have hY3 : Seats C y ss wr := Y2.out.kept HD.out.1 (fun kk e e' => by
        obtain ⟨ws', hw', _⟩ := D2.out.2.1
        exact ne_ws hw' Y2.out kk e e')
      have X3 := hidS (hX3.since (Below.refl _ _).drew)
      have Y3 := hidS (hY3.since (Below.refl _ _).drew)
      have HX3 := hidS hX3
      clear hX3 hY3 hXn e1
      go_wp2
      go_region_held3 (fun W => W.cell? ⟨w.heap.size, 0, none⟩ = some (.int .i64 ep) ∧ W.cell? ⟨w.heap.size, 1, none⟩ = some x ∧ W.cell? ⟨w.heap.size, 2, none⟩ = some y ∧ W.cell? ⟨gp, k, none⟩ = some (.int .i64 ((nd : Int) + 1)) ∧ Below wr.heap.size wr W)
        (first | exact ⟨q0, q1, q2, q3, (Below.refl _ _).drew⟩ | assumption | exact later4 ‹_› b3)
        ((go_at_call 168; refine (l3Some_any ep _ Y3.out).mono ?_; rintro e w3 ⟨sb, rfl, b3⟩))
      all_goals
        rename_i hHeld
        obtain ⟨q0, q1, q2, q3, b3'⟩ := hHeld
        have D3 := hidS (HD.out.since b3')
        have X4 := hidS ((HX3.out.since b3').since (Below.refl _ _).drew)
        clear X3 Y3 HX3 b3
        cases sb with
        | false =>
          go_wp2
          go_roundw
          case rel => exact ⟨k + 1, by omega, by go_num, ⟨D3.out.1, (by obtain ⟨ws', h1, h2⟩ := D3.out.2.1; exact ⟨ws', h1, by omega⟩), D3.out.2.2⟩⟩
          case measure => simp [intOf] <;> omega
        | true =>
          obtain ⟨ws', hw3, hwl3⟩ := D3.out.2.1
          obtain ⟨au, cu, hvu⟩ := wrapsF hw3
          subst hvu
          have HW3 := hidS (wrapsS hw3 (Below.refl _ _).drew)
          have HU := hidS D3.out.2.2
          have HG3 := hidS (grown_drew D3.out.1)
          have hs3 : w2.heap.size ≤ w3.heap.size := D3.out.1.size
          have hne1 : ∀ o, some (Addr.block ⟨w.heap.size, o, none⟩) ≠ (Value.slice au ws'.length cu).ownBlock := fun o e => by
            rcases HU.out _ e.symm with h' | h'
            · exact hvne o h'.symm
            · dsimp only at h'; have := HS0.out; omega
          have hne4 : some (Addr.block ⟨gp, k, none⟩) ≠ (Value.slice au ws'.length cu).ownBlock := fun e => by
            rcases HU.out _ e.symm with h' | h'
            · exact hpne gp rfl h'
            · dsimp only at h'; omega
          clear hw3 b3' D3 HD D2
          have tokA : True := trivial
          generalize hnl : ws'.length = nl at *
          generalize hvj : vAt vs nd = vj at *
          generalize hvn : vAt vs n' = vn at *
          go_wp2
          go_region_held3 (fun W => W.cell? ⟨w.heap.size, 0, none⟩ = some (.int .i64 ep) ∧ W.cell? ⟨w.heap.size, 1, none⟩ = some x ∧ W.cell? ⟨w.heap.size, 2, none⟩ = some y ∧ W.cell? ⟨gp, k, none⟩ = some (.int .i64 ((nd : Int) + 1)) ∧ w2.grownBy W v.ownBlock)
            (first | exact ⟨q0, q1, q2, q3, HG3.out⟩ | exact gr4 ‹_› b5 | exact gr4 ‹_› b6 | exact gr4 ‹_› (one_below _ _) | exact gr4_app ‹_› hgB HU.out (hne1 0) (hne1 1) (hne1 2) hne4 | assumption)
            (first
              | (go_at_call 92; have _t := tokA; clear _t tokA; refine (l3Key_any ep nd hnd15 hl X4.out).mono ?_; rintro e w5 ⟨rfl, b5⟩; rw [hvj]; have hs5 : w3.heap.size ≤ w5.heap.size := b5.size)
              | (go_at_call 92; refine (l3Key_any ep n' hn15 hl (X4.out.since b5)).mono ?_; rintro e w6 ⟨rfl, b6⟩; rw [hvn]; have hs6 := b6.size)
              | (refine step_append_k _ (by rfl) _ _ _ (by rfl) B 180 i0 (.agg #[.int .i64 0, .int .i64 0, .int .i64 0, .int .i64 0]) 4 32 Try.underlying44 hi hz0 hz1 hz2 rfl (by omega) (.slice au nl cu) nl _ (by rfl) (by exact wraps_own (wrapsS (wrapsS HW3.out b5) b6) hnl _) ⟨w6.heap.size, 0, none⟩ 1 _ [.int .i64 ((nd : Int) + 1), .int .i64 vj, .int .i64 ((n' : Int) + 1), .int .i64 vn] (by rfl) (by rfl) (by exact wrap_cells4 _ _ _ _ _) (by simp [Value.oneCell']) (by omega) (by unfold maxLen; omega) (by omega) (by simp <;> omega) _ rfl ?_; intro gB cB wB hownB hgB hatB hltB))
          all_goals
            rename_i hHeld
            have HGf := hidS hHeld.2.2.2.2
            have HWn := hidS (wraps_of (xs := ws' ++ [((nd : Int) + 1, vj, (n' : Int) + 1, vn)]) hownB (by rw [wcells_append]; rfl) (by rw [List.length_append, hnl]; rfl))
            have HUn : Hid (∀ kk, (Value.slice (some ⟨gB, 0, none⟩) (nl + 1) cB).ownBlock = some kk → v.ownBlock = some kk ∨ w2.heap.size ≤ kk) := fun kk e => by
              cases e
              rcases hatB with h' | h'
              · exact HU.out gB h'
              · exact .inr (by subst h'; simp only [World.size_alloc]; omega)
            clear hHeld hownB hgB hatB b5 b6 HW3 HU HG3 X4
            go_wp2
            go_roundw
            case rel => exact ⟨k + 1, by omega, by go_num, ⟨HGf.out, ⟨_, HWn.out, by simp [hnl]; omega⟩, HUn.out⟩⟩
            case measure => simp [intOf] <;> omega
    · go_wp2
      go_ret
      obtain ⟨ws', h1, h2⟩ := HD.out.2.1
      exact ⟨_, ws', rfl, h1, by omega, HG2.out.trans HD.out.1⟩
end Go.Proofs.Ytgddobdpibnkeaa
/- l3Copy of the model: a server in new memory. -/
namespace Go.Proofs.Ytgddobdpibnkeaa
open Go.RowKit

/-- An append of a row, in a region that draws its order; what it appends to is handed on. -/
theorem step_app {P : Program} (w : World) {ops : Array Oper} {o : Oper} {a : Act} {K : Act → World → Prop} {Q : Exit → Act → World → Prop} {E : Prop} (hw : Region.wanted o (yielded ops a.tmps) = true) (s x : Operand) (t : TypeId)
    (ho : o.op = .call { callee := .builtin .append, args := #[s, x], argTypes := #[t, t] })
    (base : Nat) (e : TypeId) (i : TypeInfo) (z : Value) (size bytes : Nat) (ht : P.underlying t = some (.slice e)) (hi : P.info? e = some i) (hz : i.zero = some z)
    (hsize : i.size = size) (hby : i.bytes = bytes) (hzs : z.cells.size = size) (hsz : 0 < size)
    (v : Value) (n : Nat) (xs : List Value) (hs : a.eval s = v) (hown : w.ownsRow base e size v n xs)
    (C : Nat) (xv : Value) (m : Nat) (ys : List Value) (hx : a.eval x = xv) (hsrc : w.ownsRow C e size xv m ys) (h1 : ∀ u ∈ ys, u.oneCell' = true)
    (h63 : n + m ≤ maxLen) (hbytes : (n + m) * bytes ≤ 140737488355328) (hbase : base ≤ w.heap.size)
    (h : w.ownsRow base e size v n xs → ∀ v' w', w'.ownsRow base e size v' (n + m) (xs ++ ys) → w.grownBy w' v.ownBlock → K (a.put o.dst v') w') :
    if Region.wanted o (yielded ops a.tmps) = true then Oper.wp P o a w K Q else E := by
  rw [if_pos hw]
  have h := h hown
  rcases hsrc.2 with ⟨hv, hm⟩ | ⟨g, cap, cur, hv, hb, hg, h1', h2', h3', h4'⟩
  · subst hv hm
    have hys : ys = [] := List.length_eq_zero_iff.1 (by rw [hsrc.1]; simp)
    subst hys
    have hrun := run_append_owned_none (P := P) (w := w) base t o.type e i size ht hi v n xs hown
    unfold Oper.wp
    simp [execOp, ho, resolve, invoke, builtin, hs, hx, hrun, Result.andThen]
    exact h v w (by simpa using hown) (World.grownBy.refl _ _)
  · subst hv
    refine wp_append_own w s x t ho base e i z size bytes ht hi hz hsize hby hzs hsz v n xs hs hown ⟨g, 0, none⟩ m cap ys hx hsrc.1 ?_ h1 h63 hbytes hbase ?_
    · intro j u hu
      have hj : j < m * size := by
        have := (List.getElem?_eq_some_iff.1 hu).1
        rwa [hsrc.1] at this
      rw [Addr.add_mid]
      rw [← h4', List.getElem?_take_of_lt hj] at hu
      simp [World.cell?, hg] at hu ⊢
      exact hu
    · exact fun v' w' h2 h3 _ => h v' w' h2 h3
theorem infoS2 : (Try.prog.info? 88).map (fun i => (i.zero, i.size, i.bytes)) = some (some (.agg #[.int .i64 0, .int .i64 0]), 2, 16) := by kernel_rfl
theorem infoI2 : (Try.prog.info? 2).map (fun i => (i.zero, i.size, i.bytes)) = some (some (.int .i64 0), 1, 8) := by kernel_rfl
theorem litI (X : World) {H : Nat} (h : H ≤ X.heap.size) : (X.alloc (.cells #[] 2)).ownsRow H 2 1 (.slice (some ⟨X.heap.size, 0, none⟩) 0 0) 0 [] := World.ownsRow_lit X #[] 0 h (by decide) rfl
theorem litS (X : World) {H : Nat} (h : H ≤ X.heap.size) : (X.alloc (.cells #[] 88)).ownsRow H 88 2 (.slice (some ⟨X.heap.size, 0, none⟩) 0 0) 0 [] := World.ownsRow_lit X #[] 0 h (by decide) rfl
/-- A row of numbers stands behind a write into a row of seats; and the other way. -/
theorem keepI {B H n m : Nat} {v u : Value} {xs ys : List Value} {W W' : World} (h : W.ownsRow B 2 1 v n xs) (d : W.ownsRow H 88 2 u m ys) (hg : W.grownBy W' u.ownBlock) : W'.ownsRow B 2 1 v n xs :=
  RowF.kept (r := ⟨B, 2, 1, v, n, xs⟩) h hg (rows_ne (r := ⟨H, 88, 2, u, m, ys⟩) (s := ⟨B, 2, 1, v, n, xs⟩) d h (show (88 : TypeId) ≠ 2 by decide))
theorem keepS {B H n m : Nat} {v u : Value} {xs ys : List Value} {W W' : World} (h : W.ownsRow B 88 2 v n xs) (d : W.ownsRow H 2 1 u m ys) (hg : W.grownBy W' u.ownBlock) : W'.ownsRow B 88 2 v n xs :=
  RowF.kept (r := ⟨B, 88, 2, v, n, xs⟩) h hg (rows_ne (r := ⟨H, 2, 1, u, m, ys⟩) (s := ⟨B, 88, 2, v, n, xs⟩) d h (show (2 : TypeId) ≠ 88 by decide))
theorem one_ints (xs : List Int) : ∀ u ∈ xs.map (Value.int .i64), u.oneCell' = true := by
  intro u hu
  obtain ⟨x, _, rfl⟩ := List.mem_map.1 hu
  rfl

/-- What the statement holds of a world: the argument's cells; nothing below the answer's block has turned; the answer's block is of three cells. -/
def CpS (w1 : World) (R : Nat) (W : World) : Prop := Below R w1 W ∧ (∃ u v x, W.heap[R]? = some (.cells #[u, v, x] 27)) ∧ R < W.heap.size
theorem CpS.since {w1 W W' : World} {R : Nat} (h : CpS w1 R W) (hb : Below W.heap.size W W') : CpS w1 R W' := by
  obtain ⟨h1, ⟨u, v, x, h2⟩, h3⟩ := h
  exact ⟨h1.trans (hb.mono (by omega)), ⟨u, v, x, blkSince h2 hb⟩, by have := hb.size; omega⟩
theorem CpS.grown {w1 W W' : World} {R : Nat} {row : Option Nat} (h : CpS w1 R W) (hg : W.grownBy W' row) (hr : ∀ k, row = some k → R < k) : CpS w1 R W' := by
  obtain ⟨h1, ⟨u, v, x, h2⟩, h3⟩ := h
  exact ⟨h1.grown hg (by omega) (fun k e => by have := hr k e; omega), ⟨u, v, x, (hg.block R h3 (fun e => by have := hr R e.symm; omega)).trans h2⟩, by have := hg.size; omega⟩
theorem CpS.set {w1 W : World} {R o : Nat} {y : Value} (h : CpS w1 R W) (ho : o < 3) : CpS w1 R (W.setCell ⟨R, o, none⟩ y) := by
  obtain ⟨h1, ⟨u, v, x, h2⟩, h3⟩ := h
  refine ⟨h1.setCell (Nat.le_refl _) _, ?_, by simpa [World.setCell] using h3⟩
  rcases (show o = 0 ∨ o = 1 ∨ o = 2 by omega) with rfl | rfl | rfl
  · exact ⟨_, _, _, box3_set0 h2 y⟩
  · exact ⟨_, _, _, box3_set1 h2 y⟩
  · exact ⟨_, _, _, box3_set2 h2 y⟩
theorem cp3 {w1 W W' : World} {R : Nat} {p1 p2 p3 : Addr} {v1 v2 v3 : Value} (h : W.cell? p1 = some v1 ∧ W.cell? p2 = some v2 ∧ W.cell? p3 = some v3 ∧ CpS w1 R W) (hb : Below W.heap.size W W') :
    W'.cell? p1 = some v1 ∧ W'.cell? p2 = some v2 ∧ W'.cell? p3 = some v3 ∧ CpS w1 R W' := ⟨cell_since h.1 hb, cell_since h.2.1 hb, cell_since h.2.2.1 hb, h.2.2.2.since hb⟩
theorem cp3g {w1 W W' : World} {R : Nat} {row : Option Nat} {p1 p2 p3 : Addr} {v1 v2 v3 : Value} (h : W.cell? p1 = some v1 ∧ W.cell? p2 = some v2 ∧ W.cell? p3 = some v3 ∧ CpS w1 R W) (hg : W.grownBy W' row) (hr : ∀ k, row = some k → R < k) (h1 : p1.block < R) (h2 : p2.block < R) (h3 : p3.block < R) :
    W'.cell? p1 = some v1 ∧ W'.cell? p2 = some v2 ∧ W'.cell? p3 = some v3 ∧ CpS w1 R W' :=
  ⟨hg.cell h.1 (fun e => by have := hr _ e.symm; omega), hg.cell h.2.1 (fun e => by have := hr _ e.symm; omega), hg.cell h.2.2.1 (fun e => by have := hr _ e.symm; omega), h.2.2.2.grown hg hr⟩
theorem cp3s {w1 W : World} {R : Nat} {p1 p2 p3 : Addr} {v1 v2 v3 : Value} (h : W.cell? p1 = some v1 ∧ W.cell? p2 = some v2 ∧ W.cell? p3 = some v3 ∧ CpS w1 R W) (h1 : p1.block < R) (h2 : p2.block < R) (h3 : p3.block < R) (a b c : Value) :
    let W' := ((W.setCell ⟨R, 0, none⟩ a).setCell ⟨R, 1, none⟩ b).setCell ⟨R, 2, none⟩ c
    W'.cell? p1 = some v1 ∧ W'.cell? p2 = some v2 ∧ W'.cell? p3 = some v3 ∧ CpS w1 R W' := by
  have hg : ∀ (W : World) o y, W.grownBy (W.setCell ⟨R, o, none⟩ y) (some R) := fun W o y => grown_set W R o y
  have hc : ∀ {p : Addr} {v : Value}, W.cell? p = some v → p.block < R → (((W.setCell ⟨R, 0, none⟩ a).setCell ⟨R, 1, none⟩ b).setCell ⟨R, 2, none⟩ c).cell? p = some v := fun {p v} hp hl =>
    (hg _ 2 c).cell ((hg _ 1 b).cell ((hg W 0 a).cell hp (fun e => by cases e; omega)) (fun e => by cases e; omega)) (fun e => by cases e; omega)
  exact ⟨hc h.1 h1, hc h.2.1 h2, hc h.2.2.1 h3, ((h.2.2.2.set (by omega)).set (by omega)).set (by omega)⟩
end Go.Proofs.Ytgddobdpibnkeaa
/- The cells of keys, as an append wants them. -/
namespace Go.Proofs.Ytgddobdpibnkeaa
open Go.RowKit

/-- The cells of keys, as an append wants them. -/
theorem news_keys {g off : Nat} {ks : List (Int × Int)} {W : World} (h : KSeg g off ks W) : ∀ j u, (kcells ks)[j]? = some u → W.cell? ((⟨g, off, none⟩ : Addr).add j) = some u := by
  intro j u hu
  have hj : j < ks.length * 2 := by
    have := (List.getElem?_eq_some_iff.1 hu).1
    rwa [kcells_length] at this
  rw [Addr.add_mid]
  have h2 : j = j / 2 * 2 ∨ j = j / 2 * 2 + 1 := by omega
  have hi : j / 2 < ks.length := by omega
  obtain ⟨e1, e2⟩ := kcells_get ks (j / 2) hi
  obtain ⟨c1, c2⟩ := h (j / 2) hi
  rcases h2 with e | e
  · rw [e] at hu ⊢
    rw [e1] at hu
    rw [← hu]
    exact c1
  · rw [e] at hu ⊢
    rw [e2] at hu
    rw [← hu, ← Nat.add_assoc]
    exact c2
theorem one_kcells (ks : List (Int × Int)) : ∀ u ∈ kcells ks, u.oneCell' = true := by
  intro u hu
  simp only [kcells, List.mem_flatMap] at hu
  obtain ⟨x, _, h⟩ := hu
  simp at h
  rcases h with rfl | rfl <;> rfl
end Go.Proofs.Ytgddobdpibnkeaa
/- l3Copy of the model. -/
namespace Go.Proofs.Ytgddobdpibnkeaa
open Go.RowKit

theorem own_zero {W : World} {B m sz : Nat} {e : TypeId} {v : Value} {ys : List Value} (h : W.ownsRow B e sz v (0 + m) ([] ++ ys)) : ∃ a c, v = .slice a m c ∧ W.ownsRow B e sz (.slice a m c) m ys := by
  rw [Nat.zero_add, List.nil_append] at h
  have h' := h
  rcases h.2 with ⟨hv, hm⟩ | ⟨g, cap, cur, hv, _⟩
  · subst hm hv
    exact ⟨_, _, rfl, h'⟩
  · subst hv
    exact ⟨_, _, rfl, h'⟩
theorem litId (X : World) {H : Nat} (h : H ≤ X.heap.size) : (X.alloc (.cells #[] 2)).drew.ownsRow H 2 1 (.slice (some ⟨X.heap.size, 0, none⟩) 0 0) 0 [] := litI X h
theorem litIdd (X : World) (o : Obj) {H : Nat} (h : H ≤ X.heap.size) : ((X.alloc (.cells #[] 2)).alloc o).drew.ownsRow H 2 1 (.slice (some ⟨X.heap.size, 0, none⟩) 0 0) 0 [] := World.ownsRow.alloc (litI X h) o
theorem litSd (X : World) {H : Nat} (h : H ≤ X.heap.size) : (X.alloc (.cells #[] 88)).drew.ownsRow H 88 2 (.slice (some ⟨X.heap.size, 0, none⟩) 0 0) 0 [] := litS X h
theorem litSdd (X : World) (o : Obj) {H : Nat} (h : H ≤ X.heap.size) : ((X.alloc (.cells #[] 88)).alloc o).drew.ownsRow H 88 2 (.slice (some ⟨X.heap.size, 0, none⟩) 0 0) 0 [] := World.ownsRow.alloc (litS X h) o
theorem litIa (X : World) {H S : Nat} (hS : X.heap.size = S) (h : H ≤ S) : (X.alloc (.cells #[] 2)).drew.ownsRow H 2 1 (.slice (some ⟨S, 0, none⟩) 0 0) 0 [] := by
  subst hS
  exact litI X h
theorem litSa (X : World) {H S : Nat} (hS : X.heap.size = S) (h : H ≤ S) : (X.alloc (.cells #[] 88)).drew.ownsRow H 88 2 (.slice (some ⟨S, 0, none⟩) 0 0) 0 [] := by
  subst hS
  exact litS X h
theorem cpOut {w1 W : World} {R : Nat} {p1 p2 p3 : Addr} {v1 v2 v3 : Value} (h : W.cell? p1 = some v1 ∧ W.cell? p2 = some v2 ∧ W.cell? p3 = some v3 ∧ CpS w1 R W) : CpS w1 R W := h.2.2.2
theorem intsIn {A R n : Nat} {x : Value} {vs : List Int} {w w1 W : World} (hx : Ints A x vs w) (hb : Below w.heap.size w w1) (h : CpS w1 R W) (hR : w.heap.size ≤ R) (hn : vs.length = n) : W.ownsRow A 2 1 x n (vs.map (Value.int .i64)) := by
  subst hn
  exact Ints.below (hx.since hb) h.1 (fun k e => Nat.lt_of_lt_of_le (hx.lt k e).2 hR)
theorem seatsIn {A R n : Nat} {x : Value} {vs : List (Int × Int)} {w w1 W : World} (hx : Seats A x vs w) (hb : Below w.heap.size w w1) (h : CpS w1 R W) (hR : w.heap.size ≤ R) (hn : vs.length = n) : W.ownsRow A 88 2 x n (kcells vs) := by
  subst hn
  exact Seats.below (hx.since hb) h.1 (fun k e => Nat.lt_of_lt_of_le (hx.lt k e).2 hR)

set_option maxRecDepth 100000 in
set_option maxHeartbeats 4000000 in
theorem l3Copy_any {A C : Nat} {x y : Value} {vs : List Int} {ss : List (Int × Int)} {w : World} (ep : Int) (hx : Ints A x vs w) (hy : Seats C y ss w) (hl : vs.length ≤ 1000) (hl2 : ss.length ≤ 1000) :
    Calls Try.prog 150 #[svv ep x y] w fun e w' => ∃ x' y', e = .returned (svv ep x' y') ∧ SrvIs w.heap.size x' y' vs ss w' ∧ Below w.heap.size w w' := by
  obtain ⟨iI, hiI, hI0, hI1, hI2⟩ := info_parts infoI2
  obtain ⟨iS, hiS, hS0, hS1, hS2⟩ := info_parts infoS2
  obtain ⟨a, c, hv, _, _⟩ := hx.row
  obtain ⟨a', c', hv', _, _⟩ := hy.row
  subst hv hv'
  have hB1 := two_below w (svb ep (.slice a vs.length c) (.slice a' ss.length c')) (svb 0 (.slice none 0 0) (.slice none 0 0))
  obtain ⟨c0, c1, c2⟩ := scell3 w ep (.slice a vs.length c) (.slice a' ss.length c')
  have d0 := cell_since c0 (one_below _ (svb 0 (.slice none 0 0) (.slice none 0 0)))
  have d1 := cell_since c1 (one_below _ (svb 0 (.slice none 0 0) (.slice none 0 0)))
  have d2 := cell_since c2 (one_below _ (svb 0 (.slice none 0 0) (.slice none 0 0)))
  have t1 : ((w.alloc (svb ep (.slice a vs.length c) (.slice a' ss.length c'))).alloc (svb 0 (.slice none 0 0) (.slice none 0 0))).heap[w.heap.size + 1]? = some (svb 0 (.slice none 0 0) (.slice none 0 0)) := by
    have := heap_alloc_new (w.alloc (svb ep (.slice a vs.length c) (.slice a' ss.length c'))) (svb 0 (.slice none 0 0) (.slice none 0 0))
    simpa using this
  have HS0 := hidS (show ((w.alloc (svb ep (.slice a vs.length c) (.slice a' ss.length c'))).alloc (svb 0 (.slice none 0 0) (.slice none 0 0))).heap.size = w.heap.size + 1 + 1 by simp)
  clear c0 c1 c2
  have HX := hidS hx
  have HY := hidS hy
  clear hx hy
  go_enter Try.func150, Try.ntmps150
  go_wp2
  generalize (w.alloc (svb ep (.slice a vs.length c) (.slice a' ss.length c'))).alloc (svb 0 (.slice none 0 0) (.slice none 0 0)) = w1 at *
  have HB1 := hidS hB1
  have HC1 : Hid (CpS w1 (w.heap.size + 1) w1.drew) := ⟨(Below.refl _ _).drew, ⟨_, _, _, t1⟩, show _ < w1.heap.size by have := HS0.out; omega⟩
  have tI : True := trivial
  have tS : True := trivial
  generalize hn : vs.length = n at *
  generalize hm : ss.length = m at *
  clear hB1 t1
  go_region_held3 (fun W => W.cell? ⟨w.heap.size, 0, none⟩ = some (.int .i64 ep) ∧ W.cell? ⟨w.heap.size, 1, none⟩ = some (.slice a n c) ∧ W.cell? ⟨w.heap.size, 2, none⟩ = some (.slice a' m c') ∧ CpS w1 (w.heap.size + 1) W)
    (first | exact ⟨d0, d1, d2, HC1.out⟩ | exact cp3 ‹_› (one_below _ _) | exact cp3g ‹_› grI hrI (by simp) (by simp) (by simp) | exact cp3g ‹_› grS hrS (by simp) (by simp) (by simp) | exact cp3s ‹_› (by simp) (by simp) (by simp) _ _ _ | assumption)
    (first
      | (have _t := tI; refine step_app _ (by rfl) _ _ _ (by rfl) (w.heap.size + 1 + 1) 2 iI (.int .i64 0) 1 8 Try.underlying24 hiI hI0 hI1 hI2 rfl (by decide) _ 0 [] (by rfl) (by first | exact eI | exact litIa _ (by simp) (by have := HS0.out; omega) | exact litI _ (by have := HS0.out; first | (show _ ≤ w1.heap.size; omega) | (show _ ≤ (w1.heap.push _).size; simp only [Array.size_push]; omega) | omega | (simp only [World.size_alloc]; omega)) | exact World.ownsRow.alloc (litI _ (by have := HS0.out; first | (show _ ≤ w1.heap.size; omega) | (show _ ≤ (w1.heap.push _).size; simp only [Array.size_push]; omega) | omega | (simp only [World.size_alloc]; omega))) _ | exact litId _ (by have := HS0.out; first | (show _ ≤ w1.heap.size; omega) | (show _ ≤ (w1.heap.push _).size; simp only [Array.size_push]; omega) | omega | (simp only [World.size_alloc]; omega)) | exact litIdd _ _ (by have := HS0.out; first | (show _ ≤ w1.heap.size; omega) | (show _ ≤ (w1.heap.push _).size; simp only [Array.size_push]; omega) | omega | (simp only [World.size_alloc]; omega))) A _ n _ (by rfl) (by exact intsIn HX.out HB1.out (cpOut ‹_›) (by omega) hn) (one_ints _) (by unfold maxLen; omega) (by omega) (by have := (cpOut ‹_›).2.2; omega) ?_; clear _t tI; intro dI vI wI kI' grI; obtain ⟨bI, gI, hvI, kI⟩ := own_zero kI'; subst hvI; clear kI'; have hrI : ∀ k, (Value.slice _ 0 0).ownBlock = some k → w.heap.size + 1 < k := fun k e => by { have := (World.ownsRow.lt dI k e).1; omega }; have zI : w.heap.size + 1 + 1 ≤ wI.heap.size := by { have := (cpOut ‹_›).2.2; have := grI.size; omega }; obtain ⟨uR, vR, xR, hR⟩ := (cpOut ‹_›).2.1; have hR := (grI.block (w.heap.size + 1) (cpOut ‹_›).2.2 (fun e => by { have := hrI _ e.symm; omega })).trans hR; obtain ⟨⟨o0, o1, o2⟩, f0, f1, f2⟩ := box3 hR; (first | (have kS := keepS kS dI grI) | (have kS := keepS (World.ownsRow.alloc kS _) dI grI) | skip); (first | (have eS := keepS (litS (H := w.heap.size + 1 + 1) _ (by have := HS0.out; first | (show _ ≤ w1.heap.size; omega) | (show _ ≤ (w1.heap.push _).size; simp only [Array.size_push]; omega) | omega | (simp only [World.size_alloc]; omega))) dI grI; try simp only [World.size_alloc] at eS) | (have eS := keepS (World.ownsRow.alloc (litS (H := w.heap.size + 1 + 1) _ (by have := HS0.out; first | (show _ ≤ w1.heap.size; omega) | (show _ ≤ (w1.heap.push _).size; simp only [Array.size_push]; omega) | omega | (simp only [World.size_alloc]; omega))) _) dI grI; try simp only [World.size_alloc] at eS) | (have eS := keepS (litSd (H := w.heap.size + 1 + 1) _ (by have := HS0.out; first | (show _ ≤ w1.heap.size; omega) | (show _ ≤ (w1.heap.push _).size; simp only [Array.size_push]; omega) | omega | (simp only [World.size_alloc]; omega))) dI grI; try simp only [World.size_alloc] at eS) | (have eS := keepS (litSdd (H := w.heap.size + 1 + 1) _ _ (by have := HS0.out; first | (show _ ≤ w1.heap.size; omega) | (show _ ≤ (w1.heap.push _).size; simp only [Array.size_push]; omega) | omega | (simp only [World.size_alloc]; omega))) dI grI; try simp only [World.size_alloc] at eS) | skip))
      | (have _t := tS; refine step_app _ (by rfl) _ _ _ (by rfl) (w.heap.size + 1 + 1) 88 iS (.agg #[.int .i64 0, .int .i64 0]) 2 16 Try.underlying25 hiS hS0 hS1 hS2 rfl (by decide) _ 0 [] (by rfl) (by first | exact eS | exact litSa _ (by simp) (by have := HS0.out; omega) | exact litS _ (by have := HS0.out; first | (show _ ≤ w1.heap.size; omega) | (show _ ≤ (w1.heap.push _).size; simp only [Array.size_push]; omega) | omega | (simp only [World.size_alloc]; omega)) | exact World.ownsRow.alloc (litS _ (by have := HS0.out; first | (show _ ≤ w1.heap.size; omega) | (show _ ≤ (w1.heap.push _).size; simp only [Array.size_push]; omega) | omega | (simp only [World.size_alloc]; omega))) _ | exact litSd _ (by have := HS0.out; first | (show _ ≤ w1.heap.size; omega) | (show _ ≤ (w1.heap.push _).size; simp only [Array.size_push]; omega) | omega | (simp only [World.size_alloc]; omega)) | exact litSdd _ _ (by have := HS0.out; first | (show _ ≤ w1.heap.size; omega) | (show _ ≤ (w1.heap.push _).size; simp only [Array.size_push]; omega) | omega | (simp only [World.size_alloc]; omega))) C _ m _ (by rfl) (by exact seatsIn HY.out HB1.out (cpOut ‹_›) (by omega) hm) (one_kcells _) (by unfold maxLen; omega) (by omega) (by have := (cpOut ‹_›).2.2; omega) ?_; clear _t tS; intro dS vS wS kS' grS; obtain ⟨bS, gS, hvS, kS⟩ := own_zero kS'; subst hvS; clear kS'; have hrS : ∀ k, (Value.slice _ 0 0).ownBlock = some k → w.heap.size + 1 < k := fun k e => by { have := (World.ownsRow.lt dS k e).1; omega }; have zS : w.heap.size + 1 + 1 ≤ wS.heap.size := by { have := (cpOut ‹_›).2.2; have := grS.size; omega }; obtain ⟨uR, vR, xR, hR⟩ := (cpOut ‹_›).2.1; have hR := (grS.block (w.heap.size + 1) (cpOut ‹_›).2.2 (fun e => by { have := hrS _ e.symm; omega })).trans hR; obtain ⟨⟨o0, o1, o2⟩, f0, f1, f2⟩ := box3 hR; (first | (have kI := keepI kI dS grS) | (have kI := keepI (World.ownsRow.alloc kI _) dS grS) | skip); (first | (have eI := keepI (litI (H := w.heap.size + 1 + 1) _ (by have := HS0.out; first | (show _ ≤ w1.heap.size; omega) | (show _ ≤ (w1.heap.push _).size; simp only [Array.size_push]; omega) | omega | (simp only [World.size_alloc]; omega))) dS grS; try simp only [World.size_alloc] at eI) | (have eI := keepI (World.ownsRow.alloc (litI (H := w.heap.size + 1 + 1) _ (by have := HS0.out; first | (show _ ≤ w1.heap.size; omega) | (show _ ≤ (w1.heap.push _).size; simp only [Array.size_push]; omega) | omega | (simp only [World.size_alloc]; omega))) _) dS grS; try simp only [World.size_alloc] at eI) | (have eI := keepI (litId (H := w.heap.size + 1 + 1) _ (by have := HS0.out; first | (show _ ≤ w1.heap.size; omega) | (show _ ≤ (w1.heap.push _).size; simp only [Array.size_push]; omega) | omega | (simp only [World.size_alloc]; omega))) dS grS; try simp only [World.size_alloc] at eI) | (have eI := keepI (litIdd (H := w.heap.size + 1 + 1) _ _ (by have := HS0.out; first | (show _ ≤ w1.heap.size; omega) | (show _ ≤ (w1.heap.push _).size; simp only [Array.size_push]; omega) | omega | (simp only [World.size_alloc]; omega))) dS grS; try simp only [World.size_alloc] at eI) | skip)))
  all_goals
    rename_i hHeld
    have hC := cpOut hHeld
    clear hHeld
    subst hn hm
    have KI : Ints (w.heap.size + 1 + 1) (.slice bI vs.length gI) vs wS := kI
    have KS : Seats (w.heap.size + 1 + 1) (.slice bS ss.length gS) ss wS := kS
    have hd := rows_ne (r := fI _ _ vs) (s := fS _ _ ss) KI KS (show (2 : TypeId) ≠ 88 by decide)
    have nI : (Value.slice bI vs.length gI).ownBlock ≠ some (w.heap.size + 1) := fun e => by have := (KI.lt _ e).1; omega
    have nS : (Value.slice bS ss.length gS).ownBlock ≠ some (w.heap.size + 1) := fun e => by have := (KS.lt _ e).1; omega
    have HF := hidS (box3_set2 (box3_set1 (box3_set0 hR (.int .i64 ep)) (.slice bI vs.length gI)) (.slice bS ss.length gS))
    have gI' := hidS (intsKeep (o := 2) (intsKeep (o := 1) (intsKeep (o := 0) (KI.mono (show w.heap.size ≤ _ by omega)) (.int .i64 ep) nI) (.slice bI vs.length gI) nI) (.slice bS ss.length gS) nI)
    have gS' := hidS (seatsKeep (o := 2) (seatsKeep (o := 1) (seatsKeep (o := 0) (KS.mono (show w.heap.size ≤ _ by omega)) (.int .i64 ep) nS) (.slice bI vs.length gI) nS) (.slice bS ss.length gS) nS)
    have gB := hidS (HB1.out.trans (hC.1.mono (show w.heap.size ≤ w.heap.size + 1 by omega)))
    have HDs := hidS hd
    clear hC kI kS KI KS nI nS hd dI dS grI grS hrI hrS hR o0 o1 o2 f0 f1 f2 HX HY HC1
    generalize ((wS.setCell ⟨w.heap.size + 1, 0, none⟩ (.int .i64 ep)).setCell ⟨w.heap.size + 1, 1, none⟩ (.slice bI vs.length gI)).setCell ⟨w.heap.size + 1, 2, none⟩ (.slice bS ss.length gS) = WF at *
    go_wp2
    obtain ⟨⟨z0, z1, z2⟩, _, _, _⟩ := box3 HF.out
    exact bodyPost_ret (v := svv ep (.slice bI vs.length gI) (.slice bS ss.length gS)) (by simp [results, Try.results150, go_sem, z0, z1, z2]) rfl ⟨_, _, rfl, ⟨gI'.out, gS'.out, HDs.out⟩, gB.out⟩
end Go.Proofs.Ytgddobdpibnkeaa
/- The bundle with a row that came in and may be written over: nothing else that was there has turned; blocks and rows of one's own lie apart. -/
namespace Go.Proofs.Ytgddobdpibnkeaa
open Go.RowKit

structure Hex (w0 : World) (bs : List (Nat × Obj)) (rs : List RowF) (ex : RowF) (W : World) : Prop where
  bel : w0.grownBy W ex.v.ownBlock
  exOn : ex.on W
  low : ∀ k, ex.v.ownBlock = some k → k < w0.heap.size
  box : ∀ p, p ∈ bs → W.heap[p.1]? = some p.2
  new : ∀ p, p ∈ bs → w0.heap.size ≤ p.1
  nod : bs.Pairwise fun p q => p.1 ≠ q.1
  row : ∀ r, r ∈ rs → r.on W
  fresh : ∀ r, r ∈ rs → w0.heap.size ≤ r.B
  apart : rs.Pairwise fun r s => ∀ k, r.v.ownBlock = some k → s.v.ownBlock ≠ some k
  off : ∀ p, p ∈ bs → ∀ r, r ∈ rs → r.v.ownBlock ≠ some p.1

theorem Hex.start (w : World) {ex : RowF} (h : ex.on w) : Hex w [] [] ex w := ⟨World.grownBy.refl _ _, h, fun k e => (h.lt k e).2, (fun _ h => nomatch h), (fun _ h => nomatch h), .nil, (fun _ h => nomatch h), (fun _ h => nomatch h), .nil, fun _ h => nomatch h⟩
section
variable {w0 W W' : World} {bs : List (Nat × Obj)} {rs : List RowF} {ex : RowF}
theorem Hex.since (H : Hex w0 bs rs ex W) (hb : Below W.heap.size W W') : Hex w0 bs rs ex W' :=
  ⟨H.bel.trans (grown_below hb _), RowF.since H.exOn hb, H.low, fun p h => blkSince (H.box p h) hb, H.new, H.nod, fun r h => RowF.since (H.row r h) hb, H.fresh, H.apart, H.off⟩
theorem Hex.drew (H : Hex w0 bs rs ex W) : Hex w0 bs rs ex W.drew := H.since (Below.refl _ _).drew
theorem Hex.drewN (H : Hex w0 bs rs ex W) (n : Nat) : Hex w0 bs rs ex (W.drewN n) := H.since ⟨rfl, rfl, rfl, Nat.le_refl _, fun _ _ => rfl⟩
theorem Hex.sub {bs' : List (Nat × Obj)} {rs' : List RowF} (H : Hex w0 bs rs ex W) (hc : bs'.Sublist bs) (hr : rs'.Sublist rs) : Hex w0 bs' rs' ex W :=
  ⟨H.bel, H.exOn, H.low, fun p h => H.box p (hc.subset h), fun p h => H.new p (hc.subset h), H.nod.sublist hc, fun r h => H.row r (hr.subset h), fun r h => H.fresh r (hr.subset h), H.apart.sublist hr, fun p h r h' => H.off p (hc.subset h) r (hr.subset h')⟩
theorem Hex.alloc (H : Hex w0 bs rs ex W) (o : Obj) : Hex w0 ((W.heap.size, o) :: bs) rs ex (W.alloc o) := by
  have hb : Below W.heap.size W (W.alloc o) := (Below.refl _ _).alloc (Nat.le_refl _) o
  have H' := H.since hb
  refine ⟨H'.bel, H'.exOn, H'.low, ?_, ?_, List.pairwise_cons.2 ⟨fun p hp e => ?_, H'.nod⟩, H'.row, H'.fresh, H'.apart, ?_⟩
  · intro p hp
    rcases List.mem_cons.1 hp with rfl | hp
    · exact heap_alloc_new W o
    · exact H'.box p hp
  · intro p hp
    rcases List.mem_cons.1 hp with rfl | hp
    · exact H.bel.size
    · exact H'.new p hp
  · have := blkLt (H.box p hp)
    dsimp only at e
    omega
  · intro p hp r hr e
    rcases List.mem_cons.1 hp with rfl | hp
    · have := ((H.row r hr).lt _ e).2
      dsimp only at this
      omega
    · exact H'.off p hp r hr e
theorem Hex.add {r : RowF} (H : Hex w0 bs rs ex W) (hb : Below W.heap.size W W') (h : r.on W') (hB : W.heap.size ≤ r.B) : Hex w0 bs (r :: rs) ex W' := by
  have H' := H.since hb
  refine ⟨H'.bel, H'.exOn, H'.low, H'.box, H'.new, H'.nod, ?_, ?_, List.pairwise_cons.2 ⟨fun s hs k e e' => ?_, H'.apart⟩, ?_⟩
  · intro s hs
    rcases List.mem_cons.1 hs with rfl | hs
    · exact h
    · exact H'.row s hs
  · intro s hs
    rcases List.mem_cons.1 hs with rfl | hs
    · exact Nat.le_trans H.bel.size hB
    · exact H'.fresh s hs
  · have h1 := (h.lt k e).1
    have h2 := ((H.row s hs).lt k e').2
    omega
  · intro p hp s hs e
    rcases List.mem_cons.1 hs with rfl | hs
    · have h1 := (h.lt _ e).1
      have h2 := blkLt (H.box p hp)
      omega
    · exact H'.off p hp s hs e
/-- A store into a block of one's own. -/
theorem Hex.set {pre post : List (Nat × Obj)} {p j : Nat} {o o' : Obj} {x : Value} (H : Hex w0 (pre ++ (p, o) :: post) rs ex W) (ho : (W.setCell ⟨p, j, none⟩ x).heap[p]? = some o') : Hex w0 (pre ++ (p, o') :: post) rs ex (W.setCell ⟨p, j, none⟩ x) := by
  have hmid : (p, o) ∈ pre ++ (p, o) :: post := List.mem_append_right _ (.head _)
  have hnd := List.pairwise_append.1 H.nod
  have hnd2 := List.pairwise_cons.1 hnd.2.1
  have hg : W.grownBy (W.setCell ⟨p, j, none⟩ x) (some p) := grown_set W p j x
  have hpn : w0.heap.size ≤ p := H.new _ hmid
  have hmem : ∀ q, q ∈ pre ++ (p, o') :: post → q = (p, o') ∨ (q ∈ pre ++ (p, o) :: post ∧ q.1 ≠ p) := fun q hq => by
    rcases List.mem_append.1 hq with hq | hq
    · exact .inr ⟨List.mem_append_left _ hq, hnd.2.2 q hq (p, o) (.head _)⟩
    · rcases List.mem_cons.1 hq with rfl | hq
      · exact .inl rfl
      · exact .inr ⟨List.mem_append_right _ (.tail _ hq), fun e => hnd2.1 q hq e.symm⟩
  refine ⟨grown_out H.bel p j x hpn, RowF.kept H.exOn hg (fun k e e' => by cases e; have := H.low _ e'; omega), H.low, ?_, ?_, ?_, ?_, H.fresh, H.apart, ?_⟩
  · intro q hq
    rcases hmem q hq with rfl | ⟨hq, hne⟩
    · exact ho
    · rw [hg.block q.1 (blkLt (H.box q hq)) (fun e => hne (by cases e; rfl))]
      exact H.box q hq
  · intro q hq
    rcases hmem q hq with rfl | ⟨hq, _⟩
    · exact hpn
    · exact H.new q hq
  · refine List.pairwise_append.2 ⟨hnd.1, List.pairwise_cons.2 ⟨fun q hq => hnd2.1 q hq, hnd2.2⟩, fun q hq y hy => ?_⟩
    rcases List.mem_cons.1 hy with rfl | hy
    · exact hnd.2.2 q hq (p, o) (.head _)
    · exact hnd.2.2 q hq y (.tail _ hy)
  · exact fun r hr => RowF.kept (H.row r hr) hg (fun k e e' => by cases e; exact H.off _ hmid r hr e')
  · intro q hq r hr
    rcases hmem q hq with rfl | ⟨hq, _⟩
    · exact H.off (p, o) hmid r hr
    · exact H.off q hq r hr
/-- A row of one's own, written over or grown, of a type that nothing else has. -/
theorem Hex.turn {pre post : List RowF} {r r' : RowF} (H : Hex w0 bs (pre ++ r :: post) ex W) (hg : W.grownBy W' r.v.ownBlock) (h : r'.on W') (hB : r'.B = r.B)
    (hd : (∀ s, s ∈ pre ++ post → s.t ≠ r'.t) ∧ ∀ p, p ∈ bs → objType p.2 ≠ some r'.t) : Hex w0 bs (pre ++ r' :: post) ex W' := by
  have hmid : r ∈ pre ++ r :: post := List.mem_append_right _ (.head _)
  have hap := List.pairwise_append.1 H.apart
  have hap2 := List.pairwise_cons.1 hap.2.1
  have hin : ∀ s, s ∈ pre ++ post → s ∈ pre ++ r :: post := fun s hs => by
    rcases List.mem_append.1 hs with hs | hs
    · exact List.mem_append_left _ hs
    · exact List.mem_append_right _ (.tail _ hs)
  have hdis : ∀ s, s ∈ pre ++ post → ∀ k, r.v.ownBlock = some k → s.v.ownBlock ≠ some k := fun s hs k e e' => by
    rcases List.mem_append.1 hs with hs | hs
    · exact hap.2.2 s hs r (.head _) k e' e
    · exact hap2.1 s hs k e e'
  have hlow : ∀ k, r.v.ownBlock = some k → w0.heap.size ≤ k := fun k e => Nat.le_trans (H.fresh r hmid) ((H.row r hmid).lt k e).1
  have hbox : ∀ p, p ∈ bs → W'.heap[p.1]? = some p.2 := fun p hp => by
    rw [hg.block p.1 (blkLt (H.box p hp)) (fun e => H.off p hp r hmid e.symm)]
    exact H.box p hp
  have hrow : ∀ s, s ∈ pre ++ post → s.on W' := fun s hs => RowF.kept (H.row s (hin s hs)) hg (hdis s hs)
  have hmem : ∀ s, s ∈ pre ++ r' :: post → s = r' ∨ s ∈ pre ++ post := fun s hs => by
    rcases List.mem_append.1 hs with hs | hs
    · exact .inr (List.mem_append_left _ hs)
    · rcases List.mem_cons.1 hs with hs | hs
      · exact .inl hs
      · exact .inr (List.mem_append_right _ hs)
  have hdis' : ∀ s, s ∈ pre ++ post → ∀ k, r'.v.ownBlock = some k → s.v.ownBlock ≠ some k := fun s hs => rows_ne h (hrow s hs) (fun e => hd.1 s hs e.symm)
  refine ⟨grown_via H.bel hg (fun k e => .inr (hlow k e)), RowF.kept H.exOn hg (fun k e e' => by have := hlow k e; have := H.low k e'; omega), H.low, hbox, H.new, H.nod, ?_, ?_, ?_, ?_⟩
  · intro s hs
    rcases hmem s hs with rfl | hs
    · exact h
    · exact hrow s hs
  · intro s hs
    rcases hmem s hs with rfl | hs
    · rw [hB]
      exact H.fresh r hmid
    · exact H.fresh s (hin s hs)
  · refine List.pairwise_append.2 ⟨hap.1, List.pairwise_cons.2 ⟨fun s hs => hdis' s (List.mem_append_right _ hs), hap2.2⟩, fun s hs x hx => ?_⟩
    rcases List.mem_cons.1 hx with rfl | hx
    · exact fun k e e' => hdis' s (List.mem_append_left _ hs) k e' e
    · exact hap.2.2 s hs x (.tail _ hx)
  · intro p hp s hs
    rcases hmem s hs with rfl | hs
    · exact row_box h (hbox p hp) (hd.2 p hp)
    · exact H.off p hp s (hin s hs)
/-- What came in is written over. -/
theorem Hex.mut {ex' : RowF} (H : Hex w0 bs rs ex W) (hg : W.grownBy W' ex.v.ownBlock) (h : ex'.on W') (hv : ex'.v = ex.v) : Hex w0 bs rs ex' W' := by
  refine ⟨by rw [hv]; exact H.bel.trans hg, h, by rw [hv]; exact H.low, fun p hp => ?_, H.new, H.nod, fun r hr => ?_, H.fresh, H.apart, H.off⟩
  · rw [hg.block p.1 (blkLt (H.box p hp)) (fun e => by have := H.low _ e.symm; have := H.new p hp; omega)]
    exact H.box p hp
  · exact RowF.kept (H.row r hr) hg (fun k e e' => by have := H.low k e; have := ((H.row r hr).lt k e').1; have := H.fresh r hr; omega)
end
end Go.Proofs.Ytgddobdpibnkeaa
