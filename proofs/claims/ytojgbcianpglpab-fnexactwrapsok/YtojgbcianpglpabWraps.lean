
/- Lists of wraps in memory; the contracts of WrapsOk, of the program and of the model. -/
import Derived.Test.YtojgbcianpglpabKnown
namespace Go.Proofs.Ytojgbcianpglpab
open Go.RowKit

/-- A wrap: the key under which, the key. -/
abbrev W4 := Int × Int × Int × Int
abbrev wv (a b c d : Int) : Value := .agg #[.int .i64 a, .int .i64 b, .int .i64 c, .int .i64 d]
abbrev wb (a b c d : Int) : Obj := .cells #[.int .i64 a, .int .i64 b, .int .i64 c, .int .i64 d] 43
def wcells (ws : List W4) : List Value := ws.flatMap fun k => [.int .i64 k.1, .int .i64 k.2.1, .int .i64 k.2.2.1, .int .i64 k.2.2.2]
theorem wcells_length (ws : List W4) : (wcells ws).length = ws.length * 4 := by
  induction ws with
  | nil => rfl
  | cons k ws ih => simp only [wcells, List.flatMap_cons, List.length_append, List.length_cons, List.length_nil] at ih ⊢; omega
theorem wcells_append (a b : List W4) : wcells (a ++ b) = wcells a ++ wcells b := by simp [wcells]
theorem wcells_get (ws : List W4) : ∀ i (hi : i < ws.length), (wcells ws)[i * 4]? = some (.int .i64 ws[i].1) ∧ (wcells ws)[i * 4 + 1]? = some (.int .i64 ws[i].2.1) ∧ (wcells ws)[i * 4 + 2]? = some (.int .i64 ws[i].2.2.1) ∧ (wcells ws)[i * 4 + 3]? = some (.int .i64 ws[i].2.2.2) := by
  induction ws with
  | nil => intro i hi; simp at hi
  | cons k ws ih =>
    intro i hi
    match i, hi with
    | 0, _ => simp [wcells]
    | i + 1, hi =>
      have := ih i (by simpa using hi)
      have e0 : (i + 1) * 4 = i * 4 + 1 + 1 + 1 + 1 := by omega
      have e1 : (i + 1) * 4 + 1 = i * 4 + 1 + 1 + 1 + 1 + 1 := by omega
      have e2 : (i + 1) * 4 + 2 = i * 4 + 2 + 1 + 1 + 1 + 1 := by omega
      have e3 : (i + 1) * 4 + 3 = i * 4 + 3 + 1 + 1 + 1 + 1 := by omega
      rw [e1, e2, e3, e0]
      simpa [wcells] using this

/-- The slice v holds the wraps ws, in a block at or beyond B. -/
def Wraps (B : Nat) (v : Value) (ws : List W4) (W : World) : Prop := W.ownsRow B 43 4 v ws.length (wcells ws)
theorem Wraps.mono {B B' : Nat} {v : Value} {ws : List W4} {W : World} (h : Wraps B v ws W) (hB : B' ≤ B) : Wraps B' v ws W := by
  refine ⟨h.1, ?_⟩
  rcases h.2 with hn | ⟨g, cap, cur, e, hb, rest⟩
  · exact .inl hn
  · exact .inr ⟨g, cap, cur, e, by omega, rest⟩
theorem Wraps.lt {B : Nat} {v : Value} {ws : List W4} {W : World} (h : Wraps B v ws W) : ∀ k, v.ownBlock = some k → B ≤ k ∧ k < W.heap.size := World.ownsRow.lt h
theorem Wraps.below {B C : Nat} {v : Value} {ws : List W4} {W W' : World} (h : Wraps B v ws W) (hb : Below C W W') (hC : ∀ k, v.ownBlock = some k → k < C) : Wraps B v ws W' := by
  refine ⟨h.1, ?_⟩
  rcases h.2 with hn | ⟨g, cap, cur, rfl, hb', hg, rest⟩
  · exact .inl hn
  · refine .inr ⟨g, cap, cur, rfl, hb', ?_, rest⟩
    rw [hb.block g (hC g rfl)]
    exact hg
/-- Wraps lie in block b from offset 'off' on. -/
def WSeg (b off : Nat) (ws : List W4) (W : World) : Prop :=
  ∀ i (hi : i < ws.length), W.cell? ⟨b, off + i * 4, none⟩ = some (.int .i64 ws[i].1) ∧ W.cell? ⟨b, off + i * 4 + 1, none⟩ = some (.int .i64 ws[i].2.1) ∧ W.cell? ⟨b, off + i * 4 + 2, none⟩ = some (.int .i64 ws[i].2.2.1) ∧ W.cell? ⟨b, off + i * 4 + 3, none⟩ = some (.int .i64 ws[i].2.2.2)
theorem WSeg.kept {b off : Nat} {ws : List W4} {W W' : World} (h : WSeg b off ws W) (hb : W'.heap[b]? = W.heap[b]?) : WSeg b off ws W' := fun i hi =>
  ⟨(World.cell?_of_block (a := ⟨b, off + i * 4, none⟩) hb).trans (h i hi).1, (World.cell?_of_block (a := ⟨b, off + i * 4 + 1, none⟩) hb).trans (h i hi).2.1,
    (World.cell?_of_block (a := ⟨b, off + i * 4 + 2, none⟩) hb).trans (h i hi).2.2.1, (World.cell?_of_block (a := ⟨b, off + i * 4 + 3, none⟩) hb).trans (h i hi).2.2.2⟩

theorem Wraps.form {B : Nat} {v : Value} {ws : List W4} {W : World} (h : Wraps B v ws W) :
    (v = .slice none 0 0 ∧ ws = []) ∨ ∃ g cap, v = .slice (some ⟨g, 0, none⟩) ws.length cap ∧ B ≤ g ∧ g < W.heap.size ∧ ws.length ≤ cap ∧ cap ≤ maxLen ∧ WSeg g 0 ws W ∧ ∀ o, W.frozen? ⟨g, o, none⟩ = false := by
  obtain ⟨_, h2⟩ := h
  rcases h2 with ⟨e, hn⟩ | ⟨g, cap, cur, e, hb, hg, h1, h3, h4, h5⟩
  · exact .inl ⟨e, List.length_eq_zero_iff.1 hn⟩
  · refine .inr ⟨g, cap, e, hb, (Array.getElem?_eq_some_iff.1 hg).1, h1, h3, fun i hi => ?_, fun o => by simp [World.frozen?, hg]⟩
    have hk := wcells_get ws i hi
    have cc : ∀ j u, j < ws.length * 4 → (wcells ws)[j]? = some u → cur[j]? = some u := fun j u hj h => by
      rw [← h5, List.getElem?_take_of_lt hj] at h
      simpa using h
    have c0 := cc _ _ (by omega) hk.1
    have c1 := cc _ _ (by omega) hk.2.1
    have c2 := cc _ _ (by omega) hk.2.2.1
    have c3 := cc _ _ (by omega) hk.2.2.2
    exact ⟨by simp [World.cell?, hg, c0], by simp [World.cell?, hg, c1], by simp [World.cell?, hg, c2], by simp [World.cell?, hg, c3]⟩

def wAt (ws : List W4) (i : Nat) : W4 := ws.getD i (0, 0, 0, 0)
def okW (k : W4) : Bool := okK k.1 k.2.1 && okK k.2.2.1 k.2.2.2
def wrapsTo (ws : List W4) (m : Nat) : Bool := (ws.take m).all okW
theorem wrapsTo_succ (ws : List W4) (m : Nat) (h : m < ws.length) : wrapsTo ws (m + 1) = (wrapsTo ws m && okW ws[m]) := by
  unfold wrapsTo
  rw [List.take_succ_eq_append_getElem h, List.all_append]
  simp only [List.all_cons, List.all_nil, Bool.and_true]
def wrapsB (ws : List W4) : Bool := decide (ws.length ≤ 400) && ws.all okW
theorem wrapsB_false {ws : List W4} {m : Nat} (hm : m < ws.length) (h : okW ws[m] = false) : wrapsB ws = false := by
  have : ws.all okW = false := by
    simp only [List.all_eq_false]
    exact ⟨ws[m], List.getElem_mem hm, by simp [h]⟩
  simp [wrapsB, this]

theorem specWrapsOk_none (a : Option Addr) (c : Nat) (w : World) :
    Calls Try.prog 11 #[.slice a 0 c] w fun e w' => e = .returned (.bool true) ∧ w' = w := by
  go_enter Try.func11, Try.ntmps11
  go_wp2
  refine wp_loop_rounds 1 ?_
  rw [rounds_succ]
  go_wp2
  go_ret
  exact ⟨by simp, rfl⟩
theorem wrapsOk_none (a : Option Addr) (c : Nat) (w : World) :
    Calls Try.prog 13 #[.slice a 0 c] w fun e w' => e = .returned (.bool true) ∧ w' = w := by
  go_enter Try.func13, Try.ntmps13
  go_wp2
  refine wp_loop_rounds 1 ?_
  rw [rounds_succ]
  go_wp2
  go_ret
  exact ⟨by simp, rfl⟩

set_option maxHeartbeats 1000000 in
theorem specWrapsOk_row (g c : Nat) (ws : List W4) (w : World) (hm : ws.length ≤ maxLen) (hg : g < w.heap.size) (h1 : WSeg g 0 ws w) :
    Calls Try.prog 11 #[.slice (some ⟨g, 0, none⟩) ws.length c] w fun e w' => e = .returned (.bool (wrapsB ws)) ∧ Below w.heap.size w w' := by
  unfold maxLen at hm
  generalize hn : ws.length = n at hm ⊢
  go_enter Try.func11, Try.ntmps11
  go_wp2
  go_loopw [3] (fun i wr => ∃ k : Nat, k ≤ n ∧ i = .int .i64 k ∧ wrapsTo ws k = true ∧ Below w.heap.size w wr) (fun i _ => n - (intOf i).toNat)
  case atStart => exact ⟨0, Nat.zero_le _, rfl, rfl, Below.refl _ _⟩
  case round =>
    obtain ⟨k, hk, rfl, hpre, hB⟩ := hrel
    have HP : Hid (wrapsTo ws k = true) := hpre
    have H1 : Hid (WSeg g 0 ws w) := h1
    clear hpre h1
    by_cases hlt : k < n
    · have hlk : k < ws.length := by omega
      obtain ⟨a1, a2, a3, a4⟩ := H1.out k hlk
      simp only [Nat.zero_add] at a1 a2 a3 a4
      have c1 : wr.cell? ⟨g, k * 4, none⟩ = some (.int .i64 ws[k].1) := (hB.cell (p := ⟨g, k * 4, none⟩) hg).trans a1
      have c2 : wr.cell? ⟨g, k * 4 + 1, none⟩ = some (.int .i64 ws[k].2.1) := (hB.cell (p := ⟨g, k * 4 + 1, none⟩) hg).trans a2
      have c3 : wr.cell? ⟨g, k * 4 + 2, none⟩ = some (.int .i64 ws[k].2.2.1) := (hB.cell (p := ⟨g, k * 4 + 2, none⟩) hg).trans a3
      have c4 : wr.cell? ⟨g, k * 4 + 3, none⟩ = some (.int .i64 ws[k].2.2.2) := (hB.cell (p := ⟨g, k * 4 + 3, none⟩) hg).trans a4
      have hsz := hB.size
      have HO : Hid (okW ws[k] = (okK ws[k].1 ws[k].2.1 && okK ws[k].2.2.1 ws[k].2.2.2)) := show okW ws[k] = _ from rfl
      have HS : Hid (wrapsTo ws (k + 1) = (wrapsTo ws k && okW ws[k])) := wrapsTo_succ ws k hlk
      have HF : Hid (okW ws[k] = false → wrapsB ws = false) := wrapsB_false hlk
      clear a1 a2 a3 a4
      generalize okW ws[k] = okw at HO HS HF
      generalize ws[k].1 = x1 at c1 HO
      generalize ws[k].2.1 = x2 at c2 HO
      generalize ws[k].2.2.1 = x3 at c3 HO
      generalize ws[k].2.2.2 = x4 at c4 HO
      go_wp2_with fail
      refine (l2Key_below x1 x2 _).mono ?_
      rintro e w1 ⟨rfl, hb1⟩
      cases hok : okK x1 x2 with
      | false =>
        have hBf := hB.trans (hb1.mono hsz)
        go_wp2
        go_ret
        refine ⟨?_, hBf⟩
        show Ending.returned (.bool false) = _
        rw [HF.out (by rw [HO.out, hok]; rfl)]
      | true =>
        have d3 := cell_since c3 hb1
        have d4 := cell_since c4 hb1
        have hBf := hB.trans (hb1.mono hsz)
        clear c1 c2 c3 c4 hB
        go_wp2_with fail
        refine (l2Key_below x3 x4 _).mono ?_
        rintro e w2 ⟨rfl, hb2⟩
        have hBg := hBf.trans (hb2.mono hBf.size)
        clear d3 d4 hBf
        cases hok2 : okK x3 x4 with
        | false =>
          go_wp2
          go_ret
          refine ⟨?_, hBg⟩
          show Ending.returned (.bool false) = _
          rw [HF.out (by rw [HO.out, hok, hok2]; rfl)]
        | true =>
          have HA : Hid (wrapsTo ws (k + 1) = true) := by
            show wrapsTo ws (k + 1) = true
            rw [HS.out, HP.out, HO.out, hok, hok2]; rfl
          go_wp2
          go_roundw
          case rel => exact ⟨k + 1, by omega, by go_num, HA.out, hBg⟩
          case measure => simp [intOf]; omega
    · have hke : k = n := by omega
      have hkb : wrapsB ws = decide (n ≤ 400) := by
        have : ws.all okW = true := by have := HP.out; unfold wrapsTo at this; rwa [List.take_of_length_le (by omega)] at this
        unfold wrapsB; rw [hn, this]; simp
      have HKB : Hid _ := hkb
      clear hkb
      go_wp2
      go_ret
      refine ⟨?_, hB⟩
      rw [HKB.out]
      have e : decide ((n : Int) ≤ 400) = decide (n ≤ 400) := by rw [decide_eq_decide]; omega
      rw [← e]
      rfl
end Go.Proofs.Ytojgbcianpglpab
