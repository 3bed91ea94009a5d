/- Lists of wraps in memory; the contracts of WrapsOk, of the program and of the model. -/
import Derived.Test.YtapmgbnhobpahaaGreatDoorPart0
import Derived.Laws.AppendOwn
import Derived.Deep.RegionHeld3
import Derived.Test.YtapmgbnhobpahaaGreatDoorRows
import Derived.ProofKit
import Derived.Deep.Slices
import Derived.Deep.MidRow
import Derived.OpenShut
namespace Go.Proofs.YtapmgbnhobpahaaGreatDoor
open Go.RowKit

/-- A wrap: the key under which, the key. -/
abbrev W4 := Int × Int × Int × Int
abbrev wv (a b c d : Int) : Value := .agg #[.int .i64 a, .int .i64 b, .int .i64 c, .int .i64 d]
abbrev wb (a b c d : Int) : Obj := .cells #[.int .i64 a, .int .i64 b, .int .i64 c, .int .i64 d] 56
def wcells (ws : List W4) : List Value := ws.flatMap fun k => [.int .i64 k.1, .int .i64 k.2.1, .int .i64 k.2.2.1, .int .i64 k.2.2.2]
theorem wcells_length (ws : List W4) : (wcells ws).length = ws.length * 4 := by
  induction ws with
  | nil => rfl
  | cons k ws ih => simp only [wcells, List.flatMap_cons, List.length_append, List.length_cons, List.length_nil] at ih ⊢; omega
theorem wcells_append (a b : List W4) : wcells (a ++ b) = wcells a ++ wcells b := by simp [wcells]
theorem wcells_get (ws : List W4) : ∀ i (hi : i < ws.length), (wcells ws)[i * 4]? = some (.int .i64 ws[i].1) ∧ (wcells ws)[i * 4 + 1]? = some (.int .i64 ws[i].2.1) ∧ (wcells ws)[i * 4 + 2]? = some (.int .i64 ws[i].2.2.1) ∧ (wcells ws)[i * 4 + 3]? = some (.int .i64 ws[i].2.2.2) := by
  induction ws with
  | nil => intro i hi; simp at hi
  | cons k ws ih =>
    intro i hi
    match i, hi with
    | 0, _ => simp [wcells]
    | i + 1, hi =>
      have := ih i (by simpa using hi)
      have e0 : (i + 1) * 4 = i * 4 + 1 + 1 + 1 + 1 := by omega
      have e1 : (i + 1) * 4 + 1 = i * 4 + 1 + 1 + 1 + 1 + 1 := by omega
      have e2 : (i + 1) * 4 + 2 = i * 4 + 2 + 1 + 1 + 1 + 1 := by omega
      have e3 : (i + 1) * 4 + 3 = i * 4 + 3 + 1 + 1 + 1 + 1 := by omega
      rw [e1, e2, e3, e0]
      simpa [wcells] using this

/-- The slice v holds the wraps ws, in a block at or beyond B. -/
def Wraps (B : Nat) (v : Value) (ws : List W4) (W : World) : Prop := W.ownsRow B 56 4 v ws.length (wcells ws)
theorem Wraps.mono {B B' : Nat} {v : Value} {ws : List W4} {W : World} (h : Wraps B v ws W) (hB : B' ≤ B) : Wraps B' v ws W := by
  refine ⟨h.1, ?_⟩
  rcases h.2 with hn | ⟨g, cap, cur, e, hb, rest⟩
  · exact .inl hn
  · exact .inr ⟨g, cap, cur, e, by omega, rest⟩
theorem Wraps.lt {B : Nat} {v : Value} {ws : List W4} {W : World} (h : Wraps B v ws W) : ∀ k, v.ownBlock = some k → B ≤ k ∧ k < W.heap.size := World.ownsRow.lt h
theorem Wraps.below {B C : Nat} {v : Value} {ws : List W4} {W W' : World} (h : Wraps B v ws W) (hb : Below C W W') (hC : ∀ k, v.ownBlock = some k → k < C) : Wraps B v ws W' := by
  refine ⟨h.1, ?_⟩
  rcases h.2 with hn | ⟨g, cap, cur, rfl, hb', hg, rest⟩
  · exact .inl hn
  · refine .inr ⟨g, cap, cur, rfl, hb', ?_, rest⟩
    rw [hb.block g (hC g rfl)]
    exact hg
/-- Wraps lie in block b from offset 'off' on. -/
def WSeg (b off : Nat) (ws : List W4) (W : World) : Prop :=
  ∀ i (hi : i < ws.length), W.cell? ⟨b, off + i * 4, none⟩ = some (.int .i64 ws[i].1) ∧ W.cell? ⟨b, off + i * 4 + 1, none⟩ = some (.int .i64 ws[i].2.1) ∧ W.cell? ⟨b, off + i * 4 + 2, none⟩ = some (.int .i64 ws[i].2.2.1) ∧ W.cell? ⟨b, off + i * 4 + 3, none⟩ = some (.int .i64 ws[i].2.2.2)
theorem WSeg.kept {b off : Nat} {ws : List W4} {W W' : World} (h : WSeg b off ws W) (hb : W'.heap[b]? = W.heap[b]?) : WSeg b off ws W' := fun i hi =>
  ⟨(World.cell?_of_block (a := ⟨b, off + i * 4, none⟩) hb).trans (h i hi).1, (World.cell?_of_block (a := ⟨b, off + i * 4 + 1, none⟩) hb).trans (h i hi).2.1,
    (World.cell?_of_block (a := ⟨b, off + i * 4 + 2, none⟩) hb).trans (h i hi).2.2.1, (World.cell?_of_block (a := ⟨b, off + i * 4 + 3, none⟩) hb).trans (h i hi).2.2.2⟩

theorem Wraps.form {B : Nat} {v : Value} {ws : List W4} {W : World} (h : Wraps B v ws W) :
    (v = .slice none 0 0 ∧ ws = []) ∨ ∃ g cap, v = .slice (some ⟨g, 0, none⟩) ws.length cap ∧ B ≤ g ∧ g < W.heap.size ∧ ws.length ≤ cap ∧ cap ≤ maxLen ∧ WSeg g 0 ws W ∧ ∀ o, W.frozen? ⟨g, o, none⟩ = false := by
  obtain ⟨_, h2⟩ := h
  rcases h2 with ⟨e, hn⟩ | ⟨g, cap, cur, e, hb, hg, h1, h3, h4, h5⟩
  · exact .inl ⟨e, List.length_eq_zero_iff.1 hn⟩
  · refine .inr ⟨g, cap, e, hb, (Array.getElem?_eq_some_iff.1 hg).1, h1, h3, fun i hi => ?_, fun o => by simp [World.frozen?, hg]⟩
    have hk := wcells_get ws i hi
    have cc : ∀ j u, j < ws.length * 4 → (wcells ws)[j]? = some u → cur[j]? = some u := fun j u hj h => by
      rw [← h5, List.getElem?_take_of_lt hj] at h
      simpa using h
    have c0 := cc _ _ (by omega) hk.1
    have c1 := cc _ _ (by omega) hk.2.1
    have c2 := cc _ _ (by omega) hk.2.2.1
    have c3 := cc _ _ (by omega) hk.2.2.2
    exact ⟨by simp [World.cell?, hg, c0], by simp [World.cell?, hg, c1], by simp [World.cell?, hg, c2], by simp [World.cell?, hg, c3]⟩

def wAt (ws : List W4) (i : Nat) : W4 := ws.getD i (0, 0, 0, 0)
def okW (k : W4) : Bool := okK k.1 k.2.1 && okK k.2.2.1 k.2.2.2
def wrapsTo (ws : List W4) (m : Nat) : Bool := (ws.take m).all okW
theorem wrapsTo_succ (ws : List W4) (m : Nat) (h : m < ws.length) : wrapsTo ws (m + 1) = (wrapsTo ws m && okW ws[m]) := by
  unfold wrapsTo
  rw [List.take_succ_eq_append_getElem h, List.all_append]
  simp only [List.all_cons, List.all_nil, Bool.and_true]
def wrapsB (ws : List W4) : Bool := decide (ws.length ≤ 400) && ws.all okW
theorem wrapsB_false {ws : List W4} {m : Nat} (hm : m < ws.length) (h : okW ws[m] = false) : wrapsB ws = false := by
  have : ws.all okW = false := by
    simp only [List.all_eq_false]
    exact ⟨ws[m], List.getElem_mem hm, by simp [h]⟩
  simp [wrapsB, this]

theorem specWrapsOk_none (a : Option Addr) (c : Nat) (w : World) :
    Calls Tryz.prog 58 #[.slice a 0 c] w fun e w' => e = .returned (.bool true) ∧ w' = w := by
  go_enter Tryz.func58, Tryz.ntmps58
  go_wp2
  refine wp_loop_rounds 1 ?_
  rw [rounds_succ]
  go_wp2
  go_ret
  exact ⟨by simp, rfl⟩
theorem wrapsOk_none (a : Option Addr) (c : Nat) (w : World) :
    Calls Tryz.prog 51 #[.slice a 0 c] w fun e w' => e = .returned (.bool true) ∧ w' = w := by
  go_enter Tryz.func51, Tryz.ntmps51
  go_wp2
  refine wp_loop_rounds 1 ?_
  rw [rounds_succ]
  go_wp2
  go_ret
  exact ⟨by simp, rfl⟩

set_option maxHeartbeats 1000000 in
theorem specWrapsOk_row (g c : Nat) (ws : List W4) (w : World) (hm : ws.length ≤ maxLen) (hg : g < w.heap.size) (h1 : WSeg g 0 ws w) :
    Calls Tryz.prog 58 #[.slice (some ⟨g, 0, none⟩) ws.length c] w fun e w' => e = .returned (.bool (wrapsB ws)) ∧ Below w.heap.size w w' := by
  unfold maxLen at hm
  generalize hn : ws.length = n at hm ⊢
  go_enter Tryz.func58, Tryz.ntmps58
  go_wp2
  go_loopw [3] (fun i wr => ∃ k : Nat, k ≤ n ∧ i = .int .i64 k ∧ wrapsTo ws k = true ∧ Below w.heap.size w wr) (fun i _ => n - (intOf i).toNat)
  case atStart => exact ⟨0, Nat.zero_le _, rfl, rfl, Below.refl _ _⟩
  case round =>
    obtain ⟨k, hk, rfl, hpre, hB⟩ := hrel
    have HP : Hid (wrapsTo ws k = true) := hpre
    have H1 : Hid (WSeg g 0 ws w) := h1
    clear hpre h1
    by_cases hlt : k < n
    · have hlk : k < ws.length := by omega
      obtain ⟨a1, a2, a3, a4⟩ := H1.out k hlk
      simp only [Nat.zero_add] at a1 a2 a3 a4
      have c1 : wr.cell? ⟨g, k * 4, none⟩ = some (.int .i64 ws[k].1) := (hB.cell (p := ⟨g, k * 4, none⟩) hg).trans a1
      have c2 : wr.cell? ⟨g, k * 4 + 1, none⟩ = some (.int .i64 ws[k].2.1) := (hB.cell (p := ⟨g, k * 4 + 1, none⟩) hg).trans a2
      have c3 : wr.cell? ⟨g, k * 4 + 2, none⟩ = some (.int .i64 ws[k].2.2.1) := (hB.cell (p := ⟨g, k * 4 + 2, none⟩) hg).trans a3
      have c4 : wr.cell? ⟨g, k * 4 + 3, none⟩ = some (.int .i64 ws[k].2.2.2) := (hB.cell (p := ⟨g, k * 4 + 3, none⟩) hg).trans a4
      have hsz := hB.size
      have HO : Hid (okW ws[k] = (okK ws[k].1 ws[k].2.1 && okK ws[k].2.2.1 ws[k].2.2.2)) := show okW ws[k] = _ from rfl
      have HS : Hid (wrapsTo ws (k + 1) = (wrapsTo ws k && okW ws[k])) := wrapsTo_succ ws k hlk
      have HF : Hid (okW ws[k] = false → wrapsB ws = false) := wrapsB_false hlk
      clear a1 a2 a3 a4
      generalize okW ws[k] = okw at HO HS HF
      generalize ws[k].1 = x1 at c1 HO
      generalize ws[k].2.1 = x2 at c2 HO
      generalize ws[k].2.2.1 = x3 at c3 HO
      generalize ws[k].2.2.2 = x4 at c4 HO
      go_wp2_with fail
      refine (l2Key_below x1 x2 _).mono ?_
      rintro e w1 ⟨rfl, hb1⟩
      cases hok : okK x1 x2 with
      | false =>
        have hBf := hB.trans (hb1.mono hsz)
        go_wp2
        go_ret
        refine ⟨?_, hBf⟩
        show Ending.returned (.bool false) = _
        rw [HF.out (by rw [HO.out, hok]; rfl)]
      | true =>
        have d3 := cell_since c3 hb1
        have d4 := cell_since c4 hb1
        have hBf := hB.trans (hb1.mono hsz)
        clear c1 c2 c3 c4 hB
        go_wp2_with fail
        refine (l2Key_below x3 x4 _).mono ?_
        rintro e w2 ⟨rfl, hb2⟩
        have hBg := hBf.trans (hb2.mono hBf.size)
        clear d3 d4 hBf
        cases hok2 : okK x3 x4 with
        | false =>
          go_wp2
          go_ret
          refine ⟨?_, hBg⟩
          show Ending.returned (.bool false) = _
          rw [HF.out (by rw [HO.out, hok, hok2]; rfl)]
        | true =>
          have HA : Hid (wrapsTo ws (k + 1) = true) := by
            show wrapsTo ws (k + 1) = true
            rw [HS.out, HP.out, HO.out, hok, hok2]; rfl
          go_wp2
          go_roundw
          case rel => exact ⟨k + 1, by omega, by go_num, HA.out, hBg⟩
          case measure => simp [intOf]; omega
    · have hke : k = n := by omega
      have hkb : wrapsB ws = decide (n ≤ 400) := by
        have : ws.all okW = true := by have := HP.out; unfold wrapsTo at this; rwa [List.take_of_length_le (by omega)] at this
        unfold wrapsB; rw [hn, this]; simp
      have HKB : Hid _ := hkb
      clear hkb
      go_wp2
      go_ret
      refine ⟨?_, hB⟩
      rw [HKB.out]
      have e : decide ((n : Int) ≤ 400) = decide (n ≤ 400) := by rw [decide_eq_decide]; omega
      rw [← e]
      rfl
end Go.Proofs.YtapmgbnhobpahaaGreatDoor
/- The contract of WrapsOk of the program. -/
namespace Go.Proofs.YtapmgbnhobpahaaGreatDoor
open Go.RowKit

set_option maxHeartbeats 1000000 in
theorem wrapsOk_row (g c : Nat) (ws : List W4) (w : World) (hm : ws.length ≤ maxLen) (hg : g < w.heap.size) (h1 : WSeg g 0 ws w) :
    Calls Tryz.prog 51 #[.slice (some ⟨g, 0, none⟩) ws.length c] w fun e w' => e = .returned (.bool (wrapsB ws)) ∧ Below w.heap.size w w' := by
  unfold maxLen at hm
  generalize hn : ws.length = n at hm ⊢
  by_cases h400 : (400 : Int) < (n : Int)
  · have hkf : wrapsB ws = false := by unfold wrapsB; rw [hn, decide_eq_false (by omega)]; rfl
    rw [hkf]
    go_enter Tryz.func51, Tryz.ntmps51
    go_wp2
    go_ret
    exact ⟨rfl, Below.refl _ _⟩
  go_enter Tryz.func51, Tryz.ntmps51
  go_wp2
  go_loopw [10] (fun i wr => ∃ k : Nat, k ≤ n ∧ i = .int .i64 k ∧ wrapsTo ws k = true ∧ Below w.heap.size w wr) (fun i _ => n - (intOf i).toNat)
  case atStart => exact ⟨0, Nat.zero_le _, rfl, rfl, Below.refl _ _⟩
  case round =>
    obtain ⟨k, hk, rfl, hpre, hB⟩ := hrel
    have HP : Hid (wrapsTo ws k = true) := hpre
    have H1 : Hid (WSeg g 0 ws w) := h1
    clear hpre h1
    by_cases hlt : k < n
    · have hlk : k < ws.length := by omega
      obtain ⟨a1, a2, a3, a4⟩ := H1.out k hlk
      simp only [Nat.zero_add] at a1 a2 a3 a4
      have c1 : wr.cell? ⟨g, k * 4, none⟩ = some (.int .i64 ws[k].1) := (hB.cell (p := ⟨g, k * 4, none⟩) hg).trans a1
      have c2 : wr.cell? ⟨g, k * 4 + 1, none⟩ = some (.int .i64 ws[k].2.1) := (hB.cell (p := ⟨g, k * 4 + 1, none⟩) hg).trans a2
      have c3 : wr.cell? ⟨g, k * 4 + 2, none⟩ = some (.int .i64 ws[k].2.2.1) := (hB.cell (p := ⟨g, k * 4 + 2, none⟩) hg).trans a3
      have c4 : wr.cell? ⟨g, k * 4 + 3, none⟩ = some (.int .i64 ws[k].2.2.2) := (hB.cell (p := ⟨g, k * 4 + 3, none⟩) hg).trans a4
      have hsz := hB.size
      have HO : Hid (okW ws[k] = (okK ws[k].1 ws[k].2.1 && okK ws[k].2.2.1 ws[k].2.2.2)) := show okW ws[k] = _ from rfl
      have HS : Hid (wrapsTo ws (k + 1) = (wrapsTo ws k && okW ws[k])) := wrapsTo_succ ws k hlk
      have HF : Hid (okW ws[k] = false → wrapsB ws = false) := wrapsB_false hlk
      clear a1 a2 a3 a4
      generalize okW ws[k] = okw at HO HS HF
      generalize ws[k].1 = x1 at c1 HO
      generalize ws[k].2.1 = x2 at c2 HO
      generalize ws[k].2.2.1 = x3 at c3 HO
      generalize ws[k].2.2.2 = x4 at c4 HO
      go_wp2_with fail
      refine (keyOk_below x1 x2 _).mono ?_
      rintro e w1 ⟨rfl, hb1⟩
      cases hok : okK x1 x2 with
      | false =>
        have hBf := (hB.alloc hsz (wb x1 x2 x3 x4)).trans (hb1.mono (by simp; omega))
        go_wp2
        go_ret
        refine ⟨?_, hBf⟩
        show Ending.returned (.bool false) = _
        rw [HF.out (by rw [HO.out, hok]; rfl)]
      | true =>
        have d3 : w1.cell? ⟨wr.heap.size, 2, none⟩ = some (.int .i64 x3) := cell_since (W := wr.alloc (wb x1 x2 x3 x4)) (by simp) hb1
        have d4 : w1.cell? ⟨wr.heap.size, 3, none⟩ = some (.int .i64 x4) := cell_since (W := wr.alloc (wb x1 x2 x3 x4)) (by simp) hb1
        have hBf := (hB.alloc hsz (wb x1 x2 x3 x4)).trans (hb1.mono (by simp; omega))
        clear c1 c2 c3 c4 hB
        go_wp2_with fail
        refine (keyOk_below x3 x4 _).mono ?_
        rintro e w2 ⟨rfl, hb2⟩
        have hBg := hBf.trans (hb2.mono hBf.size)
        clear d3 d4 hBf
        cases hok2 : okK x3 x4 with
        | false =>
          go_wp2
          go_ret
          refine ⟨?_, hBg⟩
          show Ending.returned (.bool false) = _
          rw [HF.out (by rw [HO.out, hok, hok2]; rfl)]
        | true =>
          have HA : Hid (wrapsTo ws (k + 1) = true) := by
            show wrapsTo ws (k + 1) = true
            rw [HS.out, HP.out, HO.out, hok, hok2]; rfl
          go_wp2
          go_roundw
          case rel => exact ⟨k + 1, by omega, by go_num, HA.out, hBg⟩
          case measure => simp [intOf]; omega
    · have hke : k = n := by omega
      have hkb : wrapsB ws = true := by
        have : ws.all okW = true := by have := HP.out; unfold wrapsTo at this; rwa [List.take_of_length_le (by omega)] at this
        unfold wrapsB; rw [hn, this, decide_eq_true (by omega)]; rfl
      have HKB : Hid _ := hkb
      clear hkb
      go_wp2
      go_ret
      refine ⟨?_, hB⟩
      rw [HKB.out]
      rfl

theorem specWrapsOk_any {B : Nat} {v : Value} {ws : List W4} {w : World} (h : Wraps B v ws w) :
    Calls Tryz.prog 58 #[v] w fun e w' => e = .returned (.bool (wrapsB ws)) ∧ Below w.heap.size w w' := by
  rcases h.form with ⟨rfl, rfl⟩ | ⟨g, cap, rfl, _, g1, h1, h2, h3, _⟩
  · exact (specWrapsOk_none _ _ w).mono fun _ _ h => ⟨h.1, h.2 ▸ Below.refl _ _⟩
  · exact specWrapsOk_row g cap ws w (by omega) g1 h3
theorem wrapsOk_any {B : Nat} {v : Value} {ws : List W4} {w : World} (h : Wraps B v ws w) :
    Calls Tryz.prog 51 #[v] w fun e w' => e = .returned (.bool (wrapsB ws)) ∧ Below w.heap.size w w' := by
  rcases h.form with ⟨rfl, rfl⟩ | ⟨g, cap, rfl, _, g1, h1, h2, h3, _⟩
  · exact (wrapsOk_none _ _ w).mono fun _ _ h => ⟨h.1, h.2 ▸ Below.refl _ _⟩
  · exact wrapsOk_row g cap ws w (by omega) g1 h3
end Go.Proofs.YtapmgbnhobpahaaGreatDoor
/- The contract of KnownOk of the program. -/
namespace Go.Proofs.YtapmgbnhobpahaaGreatDoor
open Go.RowKit

end Go.Proofs.YtapmgbnhobpahaaGreatDoor
/- Lists of keys: how they are laid anew, and as they come in. -/
namespace Go.Proofs.YtapmgbnhobpahaaGreatDoor
open Go.RowKit

theorem infoK : (Tryz.prog.info? 54).map (fun i => (i.zero, i.size, i.bytes)) = some (some (.agg #[.int .i64 0, .int .i64 0]), 2, 16) := by kernel_rfl

/-- The keys when i of them have been laid. -/
def partKeys (ks : List (Int × Int)) (i : Nat) : List (Int × Int) := ks.take i ++ List.replicate (ks.length - i) (0, 0)
theorem partKeys_length (ks : List (Int × Int)) (i : Nat) (h : i ≤ ks.length) : (partKeys ks i).length = ks.length := by simp [partKeys]; omega
theorem kcells_set (l : List (Int × Int)) : ∀ (i : Nat) (a b : Int), i < l.length → ((kcells l).set (i * 2) (.int .i64 a)).set (i * 2 + 1) (.int .i64 b) = kcells (l.set i (a, b)) := by
  induction l with
  | nil => intro i a b h; simp at h
  | cons k l ih =>
    intro i a b h
    match i, h with
    | 0, _ => simp [kcells]
    | i + 1, h =>
      have := ih i a b (by simpa using h)
      have e1 : (i + 1) * 2 = i * 2 + 1 + 1 := by omega
      have e2 : (i + 1) * 2 + 1 = i * 2 + 1 + 1 + 1 := by omega
      rw [e2, e1]
      simpa [kcells] using this
theorem partKeys_set (ks : List (Int × Int)) (i : Nat) (h : i < ks.length) : (partKeys ks i).set i ks[i] = partKeys ks (i + 1) := by
  unfold partKeys
  have e : ks.length - i = (ks.length - (i + 1)) + 1 := by omega
  have hl : (ks.take i).length = i := by simp; omega
  rw [e, List.replicate_succ, List.take_succ_eq_append_getElem h, List.append_assoc, List.set_append_right _ _ (by omega), hl, Nat.sub_self, List.set_cons_zero]
  rfl
theorem Keys.stored {B g cap : Nat} {l : List (Int × Int)} {n : Nat} {W : World} (hn : l.length = n) (h : Keys B (.slice (some ⟨g, 0, none⟩) n cap) l W) (i : Nat) (hi : i < l.length) (a b : Int) :
    Keys B (.slice (some ⟨g, 0, none⟩) n cap) (l.set i (a, b)) ((W.setCell ⟨g, i * 2, none⟩ (.int .i64 a)).setCell ⟨g, i * 2 + 1, none⟩ (.int .i64 b)) ∧
      W.grownBy ((W.setCell ⟨g, i * 2, none⟩ (.int .i64 a)).setCell ⟨g, i * 2 + 1, none⟩ (.int .i64 b)) (some g) := by
  subst hn
  have h1 := World.ownsRow.stored h (i * 2) (.int .i64 a)
  have h2 := h1.1.stored (i * 2 + 1) (.int .i64 b)
  rw [kcells_set _ _ _ _ hi] at h2
  refine ⟨?_, h1.2.trans h2.2⟩
  unfold Keys
  rw [List.length_set]
  exact h2.1
theorem made_two (c : Value) (n : Nat) : (madeCells #[c, c] n).toList = List.replicate n c := by
  apply List.ext_getElem?
  intro j
  by_cases hj : j < n
  · have h2 : j % 2 = 0 ∨ j % 2 = 1 := by omega
    rcases h2 with h2 | h2 <;> simp [madeCells, hj, h2]
  · simp [madeCells, hj]
theorem kcells_zero (n : Nat) : kcells (List.replicate n (0, 0)) = List.replicate (n * 2) (.int .i64 0) := by
  induction n with
  | zero => rfl
  | succ n ih =>
    have e : (n + 1) * 2 = n * 2 + 1 + 1 := by omega
    rw [e, List.replicate_succ, List.replicate_succ, List.replicate_succ, ← ih]
    rfl

theorem below_grown {W W' : World} (h : W.grownBy W' none) : Below W.heap.size W W' := ⟨h.os, h.tape, h.output, h.size, fun k hk => h.block k hk (by simp)⟩

/-- A list of the laws' keys, as it came in. -/
def InKeys (v : Value) (ks : List (Int × Int)) (W : World) : Prop :=
  (∃ a c, v = .slice a 0 c ∧ ks = []) ∨ ∃ b off c, v = .slice (some ⟨b, off, none⟩) ks.length c ∧ b < W.heap.size ∧ ks.length ≤ maxLen ∧ KSeg b off ks W
theorem InKeys.below {v : Value} {ks : List (Int × Int)} {W W' : World} {C : Nat} (h : InKeys v ks W) (hb : Below C W W') (hC : W.heap.size ≤ C) : InKeys v ks W' := by
  rcases h with h | ⟨b, off, c, e, hl, hm, hs⟩
  · exact .inl h
  · exact .inr ⟨b, off, c, e, by have := hb.size; omega, hm, hs.kept (hb.block b (by omega))⟩
theorem InKeys.len {v : Value} {ks : List (Int × Int)} {W : World} (h : InKeys v ks W) : ∃ a c, v = .slice a ks.length c ∧ ks.length ≤ maxLen := by
  rcases h with ⟨a, c, rfl, rfl⟩ | ⟨b, off, c, rfl, _, hm, _⟩
  · exact ⟨_, _, rfl, Nat.zero_le _⟩
  · exact ⟨_, _, rfl, hm⟩
end Go.Proofs.YtapmgbnhobpahaaGreatDoor
/- What the laws' comparison of two lists of keys does. -/
namespace Go.Proofs.YtapmgbnhobpahaaGreatDoor
open Go.RowKit

def sameK (a0 a1 b0 b1 : Int) : Bool := decide (a0 = b0 ∧ a1 = b1)
theorem two_below (w : World) (o o' : Obj) : Below w.heap.size w ((w.alloc o).alloc o') := ((Below.refl _ _).alloc (Nat.le_refl _) o).alloc (by simp) o'

def eqL (xs ys : List (Int × Int)) : Bool := decide (xs = ys)
theorem eqL_len {xs ys : List (Int × Int)} (h : xs.length ≠ ys.length) : eqL xs ys = false := decide_eq_false fun e => h (by rw [e])
end Go.Proofs.YtapmgbnhobpahaaGreatDoor
/- The contracts of MemberOk, of the program and of the model: an Id 1 .. 20, an Epoch 0 .. 10^9, known keys, no two of one node. -/
namespace Go.Proofs.YtapmgbnhobpahaaGreatDoor
open Go.RowKit

theorem more {w W W' : World} (h : Below w.heap.size w W) (hb : Below W.heap.size W W') : Below w.heap.size w W' := h.trans (hb.mono h.size)
abbrev mv (id ep : Int) (v : Value) : Value := .agg #[.int .i64 id, .int .i64 ep, v]

theorem isMember_any (n : Int) (w : World) :
    Calls Tryz.prog 61 #[.int .i64 n] w fun e w' => e = .returned (.bool (decide (1 ≤ n ∧ n ≤ 20))) ∧ w' = w := by
  by_cases h1 : 1 ≤ n
  · by_cases h2 : n ≤ 20
    · rw [decide_eq_true ⟨h1, h2⟩]
      go_enter Tryz.func61, Tryz.ntmps61
      go_wp2
      go_ret
      exact ⟨by simp, rfl⟩
    · rw [decide_eq_false (fun h => h2 h.2)]
      go_enter Tryz.func61, Tryz.ntmps61
      go_wp2
      go_ret
      exact ⟨by simp, rfl⟩
  · rw [decide_eq_false (fun h => h1 h.1)]
    go_enter Tryz.func61, Tryz.ntmps61
    go_wp2
    go_ret
    exact ⟨rfl, rfl⟩
/-- Keys ahead of place m: no two neighbours of one node. -/
def nodeAt (ks : List (Int × Int)) (i : Nat) : Bool := decide (i = 0) || !decide ((kAt ks (i - 1)).1 = (kAt ks i).1)
def nodesTo (ks : List (Int × Int)) (m : Nat) : Bool := (List.range m).all (nodeAt ks)
theorem nodesTo_succ (ks : List (Int × Int)) (m : Nat) : nodesTo ks (m + 1) = (nodesTo ks m && nodeAt ks m) := by simp [nodesTo, List.range_succ]
theorem nodesTo_false {ks : List (Int × Int)} {m n : Nat} (h : nodeAt ks m = false) (hn : m < n) : nodesTo ks n = false := by
  simp only [nodesTo, List.all_eq_false]
  exact ⟨m, List.mem_range.2 hn, by simp [h]⟩
def headB (id ep : Int) (ks : List (Int × Int)) : Bool := decide (1 ≤ id ∧ id ≤ 20) && (decide (0 ≤ ep ∧ ep ≤ 1000000000) && knownB ks)
def memberB (id ep : Int) (ks : List (Int × Int)) : Bool := headB id ep ks && nodesTo ks ks.length

/-- Keys, as an argument: none, or a row. -/
def KRow (a : Option Addr) (ks : List (Int × Int)) (w : World) : Prop := ks = [] ∨ ∃ g, a = some ⟨g, 0, none⟩ ∧ g < w.heap.size ∧ KSeg g 0 ks w
theorem Keys.row {B : Nat} {v : Value} {ks : List (Int × Int)} {w : World} (h : Keys B v ks w) : ∃ a c, v = .slice a ks.length c ∧ ks.length ≤ maxLen ∧ KRow a ks w := by
  rcases h.form with ⟨rfl, rfl⟩ | ⟨g, cap, rfl, _, g1, h1, h2, h3, _⟩
  · exact ⟨_, _, rfl, Nat.zero_le _, .inl rfl⟩
  · exact ⟨_, _, rfl, by omega, .inr ⟨g, rfl, g1, h3⟩⟩
end Go.Proofs.YtapmgbnhobpahaaGreatDoor
/- What is known of a world while a law is walked, in one bundle: nothing that was there has turned, cells hold what they hold, rows of the call's own lie apart from one another. -/
namespace Go.Proofs.YtapmgbnhobpahaaGreatDoor
open Go.RowKit

/-- A row of the call's own. -/
structure RowF where
  B : Nat
  t : TypeId
  sz : Nat
  v : Value
  n : Nat
  xs : List Value
/-- It lies in this world. -/
def RowF.on (r : RowF) (W : World) : Prop := W.ownsRow r.B r.t r.sz r.v r.n r.xs

/-- The bundle. -/
structure Kit (w0 : World) (cs : List (Addr × Value)) (rs : List RowF) (W : World) : Prop where
  bel : Below w0.heap.size w0 W
  cell : ∀ p, p ∈ cs → W.cell? p.1 = some p.2
  row : ∀ r, r ∈ rs → r.on W
  fresh : ∀ r, r ∈ rs → w0.heap.size ≤ r.B
  apart : rs.Pairwise fun r s => ∀ k, r.v.ownBlock = some k → s.v.ownBlock ≠ some k
  off : ∀ p, p ∈ cs → ∀ r, r ∈ rs → r.v.ownBlock ≠ some p.1.block

theorem RowF.lt {r : RowF} {W : World} (h : r.on W) : ∀ k, r.v.ownBlock = some k → r.B ≤ k ∧ k < W.heap.size := World.ownsRow.lt h
theorem RowF.since {r : RowF} {W W' : World} (h : r.on W) (hb : Below W.heap.size W W') : r.on W' := by
  refine ⟨h.1, ?_⟩
  rcases h.2 with hn | ⟨g, cap, cur, e, hb', hg, rest⟩
  · exact .inl hn
  · refine .inr ⟨g, cap, cur, e, hb', ?_, rest⟩
    rw [hb.block g (Array.getElem?_eq_some_iff.1 hg).1]
    exact hg
theorem RowF.kept {r : RowF} {W W' : World} {row : Option Nat} (h : r.on W) (hg : W.grownBy W' row) (hne : ∀ k, row = some k → r.v.ownBlock ≠ some k) : r.on W' := by
  refine World.ownsRow.kept h hg ?_
  cases row with
  | none => cases e : r.v.ownBlock <;> simp
  | some k => exact .inr (hne k rfl)

theorem Kit.start {w0 W : World} {cs : List (Addr × Value)} (hb : Below w0.heap.size w0 W) (hc : ∀ p, p ∈ cs → W.cell? p.1 = some p.2) : Kit w0 cs [] W :=
  ⟨hb, hc, (fun _ h => (by cases h)), (fun _ h => (by cases h)), .nil, fun _ _ _ h => (by cases h)⟩
theorem Kit.since {w0 W W' : World} {cs : List (Addr × Value)} {rs : List RowF} (K : Kit w0 cs rs W) (hb : Below W.heap.size W W') : Kit w0 cs rs W' :=
  ⟨K.bel.trans (hb.mono K.bel.size), fun p h => cell_since (K.cell p h) hb, fun r h => RowF.since (K.row r h) hb, K.fresh, K.apart, K.off⟩
theorem Kit.drew {w0 W : World} {cs : List (Addr × Value)} {rs : List RowF} (K : Kit w0 cs rs W) : Kit w0 cs rs W.drew := K.since (Below.refl _ _).drew
theorem Kit.drewN {w0 W : World} {cs : List (Addr × Value)} {rs : List RowF} (K : Kit w0 cs rs W) (n : Nat) : Kit w0 cs rs (W.drewN n) := K.since ⟨rfl, rfl, rfl, Nat.le_refl _, fun _ _ => rfl⟩
/-- Fewer. -/
theorem Kit.sub {w0 W : World} {cs cs' : List (Addr × Value)} {rs rs' : List RowF} (K : Kit w0 cs rs W) (hc : ∀ p, p ∈ cs' → p ∈ cs) (hr : rs'.Sublist rs) : Kit w0 cs' rs' W :=
  ⟨K.bel, fun p h => K.cell p (hc p h), fun r h => K.row r (hr.subset h), fun r h => K.fresh r (hr.subset h), K.apart.sublist hr, fun p h r h' => K.off p (hc p h) r (hr.subset h')⟩
/-- A new row. -/
theorem Kit.add {w0 W W' : World} {cs : List (Addr × Value)} {rs : List RowF} {r : RowF} (K : Kit w0 cs rs W) (hb : Below W.heap.size W W') (h : r.on W') (hB : W.heap.size ≤ r.B) : Kit w0 cs (r :: rs) W' := by
  have K' := K.since hb
  refine ⟨K'.bel, K'.cell, ?_, ?_, ?_, ?_⟩
  · intro s hs
    rcases List.mem_cons.1 hs with rfl | hs
    · exact h
    · exact K'.row s hs
  · intro s hs
    rcases List.mem_cons.1 hs with rfl | hs
    · exact Nat.le_trans K.bel.size hB
    · exact K'.fresh s hs
  · refine List.pairwise_cons.2 ⟨fun s hs k e e' => ?_, K'.apart⟩
    have h1 := (h.lt k e).1
    have h2 := ((K.row s hs).lt k e').2
    omega
  · intro p hp s hs e
    rcases List.mem_cons.1 hs with rfl | hs
    · have h1 := (h.lt _ e).1
      have h2 := World.block_lt_of_cell? W p.1 (K.cell p hp)
      omega
    · exact K'.off p hp s hs e
/-- Two new rows of one call. -/
theorem Kit.add2 {w0 W W' : World} {cs : List (Addr × Value)} {rs : List RowF} {r s : RowF} (K : Kit w0 cs rs W) (hb : Below W.heap.size W W') (h : r.on W') (h' : s.on W') (hB : W.heap.size ≤ r.B) (hB' : W.heap.size ≤ s.B)
    (hd : ∀ k, r.v.ownBlock = some k → s.v.ownBlock ≠ some k) : Kit w0 cs (r :: s :: rs) W' := by
  have K1 := K.add hb h' hB'
  have K2 := K.add hb h hB
  refine ⟨K1.bel, K1.cell, ?_, ?_, ?_, ?_⟩
  · intro x hx
    rcases List.mem_cons.1 hx with rfl | hx
    · exact h
    · exact K1.row x hx
  · intro x hx
    rcases List.mem_cons.1 hx with rfl | hx
    · exact K2.fresh _ (.head _)
    · exact K1.fresh x hx
  · refine List.pairwise_cons.2 ⟨fun x hx => ?_, K1.apart⟩
    rcases List.mem_cons.1 hx with rfl | hx
    · exact hd
    · exact (List.pairwise_cons.1 K2.apart).1 x hx
  · intro p hp x hx
    rcases List.mem_cons.1 hx with rfl | hx
    · exact K2.off p hp _ (.head _)
    · exact K1.off p hp x hx
/-- New cells, at or beyond the world's end. -/
theorem Kit.cells {w0 W W' : World} {cs ds : List (Addr × Value)} {rs : List RowF} (K : Kit w0 cs rs W) (hb : Below W.heap.size W W') (hc : ∀ p, p ∈ ds → W'.cell? p.1 = some p.2) (hn : ∀ p, p ∈ ds → W.heap.size ≤ p.1.block) : Kit w0 (ds ++ cs) rs W' := by
  have K' := K.since hb
  refine ⟨K'.bel, ?_, K'.row, K'.fresh, K'.apart, ?_⟩
  · intro p hp
    rcases List.mem_append.1 hp with h | h
    · exact hc p h
    · exact K'.cell p h
  · intro p hp r hr e
    rcases List.mem_append.1 hp with h | h
    · have h1 := hn p h
      have h2 := ((K.row r hr).lt _ e).2
      omega
    · exact K'.off p h r hr e
/-- A row written over. -/
theorem Kit.mark {w0 W W' : World} {cs : List (Addr × Value)} {pre post : List RowF} {r r' : RowF} (K : Kit w0 cs (pre ++ r :: post) W) (hg : W.grownBy W' r.v.ownBlock) (h : r'.on W') (hv : r'.v = r.v) (hB : r'.B = r.B) : Kit w0 cs (pre ++ r' :: post) W' := by
  have hmem : ∀ s, s ∈ pre ++ r' :: post → s = r' ∨ (s ∈ pre ∨ s ∈ post) := fun s hs => by
    rcases List.mem_append.1 hs with hs | hs
    · exact .inr (.inl hs)
    · rcases List.mem_cons.1 hs with hs | hs
      · exact .inl hs
      · exact .inr (.inr hs)
  have hin : ∀ s, (s ∈ pre ∨ s ∈ post) → s ∈ pre ++ r :: post := fun s hs => by
    rcases hs with hs | hs
    · exact List.mem_append_left _ hs
    · exact List.mem_append_right _ (.tail _ hs)
  have hmid : r ∈ pre ++ r :: post := List.mem_append_right _ (.head _)
  have hap := List.pairwise_append.1 K.apart
  have hap2 := List.pairwise_cons.1 hap.2.1
  have hdis : ∀ s, (s ∈ pre ∨ s ∈ post) → ∀ k, r.v.ownBlock = some k → s.v.ownBlock ≠ some k := fun s hs k e e' => by
    rcases hs with hs | hs
    · exact hap.2.2 s hs r (.head _) k e' e
    · exact hap2.1 s hs k e e'
  refine ⟨K.bel.grown hg K.bel.size (fun k e => Nat.le_trans (K.fresh r hmid) ((K.row r hmid).lt k e).1), ?_, ?_, ?_, ?_, ?_⟩
  · exact fun p hp => hg.cell (K.cell p hp) (fun e => K.off p hp r hmid e.symm)
  · intro s hs
    rcases hmem s hs with rfl | hs
    · exact h
    · exact RowF.kept (K.row s (hin s hs)) hg (hdis s hs)
  · intro s hs
    rcases hmem s hs with rfl | hs
    · rw [hB]
      exact K.fresh r hmid
    · exact K.fresh s (hin s hs)
  · refine List.pairwise_append.2 ⟨hap.1, List.pairwise_cons.2 ⟨fun s hs => by rw [hv]; exact hap2.1 s hs, hap2.2⟩, fun s hs x hx => ?_⟩
    rcases List.mem_cons.1 hx with rfl | hx
    · rw [hv]
      exact hap.2.2 s hs r (.head _)
    · exact hap.2.2 s hs x (.tail _ hx)
  · intro p hp s hs
    rcases hmem s hs with rfl | hs
    · rw [hv]
      exact K.off p hp r hmid
    · exact K.off p hp s (hin s hs)
/-- A row that is let go, and written over. -/
theorem Kit.lose {w0 W W' : World} {cs : List (Addr × Value)} {rs : List RowF} {r : RowF} (K : Kit w0 cs (r :: rs) W) (hg : W.grownBy W' r.v.ownBlock) : Kit w0 cs rs W' := by
  have hap := List.pairwise_cons.1 K.apart
  refine ⟨K.bel.grown hg K.bel.size (fun k e => Nat.le_trans (K.fresh r (.head _)) ((K.row r (.head _)).lt k e).1), ?_, ?_, fun s hs => K.fresh s (.tail _ hs), hap.2, fun p hp s hs => K.off p hp s (.tail _ hs)⟩
  · exact fun p hp => hg.cell (K.cell p hp) (fun e => K.off p hp r (.head _) e.symm)
  · exact fun s hs => RowF.kept (K.row s (.tail _ hs)) hg (fun k e e' => hap.1 s hs k e e')
/-- The row at a place comes first. -/
theorem Kit.front {w0 W : World} {cs : List (Addr × Value)} {pre post : List RowF} {r : RowF} (K : Kit w0 cs (pre ++ r :: post) W) : Kit w0 cs (r :: (pre ++ post)) W := by
  have hap := List.pairwise_append.1 K.apart
  have hap2 := List.pairwise_cons.1 hap.2.1
  have hin : ∀ s, s ∈ r :: (pre ++ post) → s ∈ pre ++ r :: post := fun s hs => by
    rcases List.mem_cons.1 hs with rfl | hs
    · exact List.mem_append_right _ (.head _)
    · rcases List.mem_append.1 hs with hs | hs
      · exact List.mem_append_left _ hs
      · exact List.mem_append_right _ (.tail _ hs)
  refine ⟨K.bel, K.cell, fun s hs => K.row s (hin s hs), fun s hs => K.fresh s (hin s hs), List.pairwise_cons.2 ⟨fun s hs k e e' => ?_, List.pairwise_append.2 ⟨hap.1, hap2.2, fun s hs x hx => hap.2.2 s hs x (.tail _ hx)⟩⟩, fun p hp s hs => K.off p hp s (hin s hs)⟩
  rcases List.mem_append.1 hs with hs | hs
  · exact hap.2.2 s hs r (.head _) k e' e
  · exact hap2.1 s hs k e e'
end Go.Proofs.YtapmgbnhobpahaaGreatDoor
/- Rekeys that are right: rekeyOk of the program, l4RekeyOk of the model. -/
namespace Go.Proofs.YtapmgbnhobpahaaGreatDoor
open Go.RowKit

theorem hidA {p : Prop} (h : p) : Hid p := h
abbrev rv (ep : Int) (x : Value) : Value := .agg #[.int .i64 ep, x]
abbrev rb (ep : Int) (x : Value) : Obj := .cells #[.int .i64 ep, x] 32
/-- A rekey is right. -/
def rkB (ep : Int) (ws : List W4) : Bool := decide (1 ≤ ep ∧ ep ≤ 1000000000) && wrapsB ws
theorem rkB_wraps {ep : Int} {ws : List W4} (h : rkB ep ws = true) : wrapsB ws = true := by
  unfold rkB at h
  simp only [Bool.and_eq_true] at h
  exact h.2
theorem wrapsSince {B : Nat} {v : Value} {ws : List W4} {W W' : World} (h : Wraps B v ws W) (hb : Below W.heap.size W W') : Wraps B v ws W' := by
  have := RowF.since (r := ⟨B, 56, 4, v, ws.length, wcells ws⟩) h hb
  exact this
theorem rcell2 (w : World) (ep : Int) (x : Value) : (w.alloc (rb ep x)).cell? ⟨w.heap.size, 0, none⟩ = some (.int .i64 ep) ∧ (w.alloc (rb ep x)).cell? ⟨w.heap.size, 1, none⟩ = some x := by simp

set_option maxRecDepth 100000 in
theorem rekeyOk_any {B : Nat} {x : Value} {ws : List W4} {w : World} (ep : Int) (h : Wraps B x ws w) :
    Calls Tryz.prog 27 #[rv ep x] w fun e w' => e = .returned (.bool (rkB ep ws)) ∧ Below w.heap.size w w' := by
  have hB1 := one_below w (rb ep x)
  obtain ⟨c0, c1⟩ := rcell2 w ep x
  have X1 := hidA (wrapsSince h hB1)
  clear h
  by_cases h1 : 1 ≤ ep
  · by_cases h2 : ep ≤ 1000000000
    · have HR := hidA (show rkB ep ws = wrapsB ws by simp [rkB, h1, h2])
      go_enter Tryz.func27, Tryz.ntmps27
      go_wp2_with fail
      generalize w.alloc (rb ep x) = w1 at *
      refine (wrapsOk_any X1.out).mono ?_
      rintro e w2 ⟨rfl, b2⟩
      have B2 := hidA (more hB1 b2)
      clear hB1 b2 c0 c1 X1
      go_wp2
      go_ret
      exact ⟨by rw [HR.out]; rfl, B2.out⟩
    · have HR := hidA (show rkB ep ws = false by simp [rkB, h2])
      go_enter Tryz.func27, Tryz.ntmps27
      go_wp2
      go_ret
      exact ⟨by rw [HR.out]; rfl, hB1⟩
  · have HR := hidA (show rkB ep ws = false by simp [rkB, h1])
    go_enter Tryz.func27, Tryz.ntmps27
    go_wp2
    go_ret
    exact ⟨by rw [HR.out]; rfl, hB1⟩

set_option maxRecDepth 100000 in
theorem l4RekeyOk_any {B : Nat} {x : Value} {ws : List W4} {w : World} (ep : Int) (h : Wraps B x ws w) :
    Calls Tryz.prog 34 #[rv ep x] w fun e w' => e = .returned (.bool (rkB ep ws)) ∧ Below w.heap.size w w' := by
  have hB1 := one_below w (rb ep x)
  obtain ⟨c0, c1⟩ := rcell2 w ep x
  have X1 := hidA (wrapsSince h hB1)
  clear h
  go_enter Tryz.func34, Tryz.ntmps34
  go_wp2_with fail
  generalize w.alloc (rb ep x) = w1 at *
  refine (l1InK_any _ _ _ _).mono ?_
  rintro e w' ⟨rfl, rfl⟩
  cases h1 : decide (1 ≤ ep ∧ ep ≤ 1000000000) with
  | false =>
    have HR := hidA (show rkB ep ws = false by simp [rkB, h1])
    clear h1
    go_wp2
    go_ret
    exact ⟨by rw [HR.out]; rfl, hB1⟩
  | true =>
    have HR := hidA (show rkB ep ws = wrapsB ws by simp [rkB, h1])
    clear h1
    go_wp2_with fail
    refine (specWrapsOk_any X1.out).mono ?_
    rintro e w2 ⟨rfl, b2⟩
    have B2 := hidA (more hB1 b2)
    clear hB1 b2 c0 c1 X1
    go_wp2
    go_ret
    exact ⟨by rw [HR.out]; rfl, B2.out⟩
end Go.Proofs.YtapmgbnhobpahaaGreatDoor
/- The walk of the exact law of KeyAhead: it answers true at every two keys, and nothing that lay there turns. -/
namespace Go.Proofs.YtapmgbnhobpahaaGreatDoor
open Go.RowKit
/-- Two boxes of two cells each, from block n on, and nothing turned below them. -/
def Two (n : Nat) (w : World) (a0 a1 b0 b1 : Int) (W : World) : Prop :=
  W.cell? ⟨n, 0, none⟩ = some (.int .i64 a0) ∧ W.cell? ⟨n, 1, none⟩ = some (.int .i64 a1) ∧ W.cell? ⟨n + 1, 0, none⟩ = some (.int .i64 b0) ∧ W.cell? ⟨n + 1, 1, none⟩ = some (.int .i64 b1) ∧ Below n w W ∧ n + 2 ≤ W.heap.size
theorem Two.later {n : Nat} {w W W' : World} {a0 a1 b0 b1 : Int} (h : Two n w a0 a1 b0 b1 W) (hb : Below W.heap.size W W') : Two n w a0 a1 b0 b1 W' := by
  obtain ⟨h1, h2, h3, h4, h5, h6⟩ := h
  exact ⟨(hb.cell (p := ⟨n, 0, none⟩) (by simp; omega)).trans h1, (hb.cell (p := ⟨n, 1, none⟩) (by simp; omega)).trans h2, (hb.cell (p := ⟨n + 1, 0, none⟩) (by simp; omega)).trans h3, (hb.cell (p := ⟨n + 1, 1, none⟩) (by simp; omega)).trans h4, h5.trans (hb.mono (by omega)), by have := hb.size; omega⟩
theorem Two.drew {n : Nat} {w W : World} {a0 a1 b0 b1 : Int} (h : Two n w a0 a1 b0 b1 W) : Two n w a0 a1 b0 b1 W.drew := h.later (Below.refl _ _).drew

end Go.Proofs.YtapmgbnhobpahaaGreatDoor
/- What the exact laws' helpers on lists of wraps do: toWrap, toWrapS, eqWrap, eqWrapS, szWrapS. -/
namespace Go.Proofs.YtapmgbnhobpahaaGreatDoor
open Go.RowKit
theorem infoW : (Tryz.prog.info? 56).map (fun i => (i.zero, i.size, i.bytes)) = some (some (.agg #[.int .i64 0, .int .i64 0, .int .i64 0, .int .i64 0]), 4, 32) := by kernel_rfl

/-- The wraps when i of them have been laid. -/
def partWraps (ws : List W4) (i : Nat) : List W4 := ws.take i ++ List.replicate (ws.length - i) (0, 0, 0, 0)
theorem partWraps_length (ws : List W4) (i : Nat) (h : i ≤ ws.length) : (partWraps ws i).length = ws.length := by simp [partWraps]; omega
theorem wcells_set (l : List W4) : ∀ (i : Nat) (a b c d : Int), i < l.length → ((((wcells l).set (i * 4) (.int .i64 a)).set (i * 4 + 1) (.int .i64 b)).set (i * 4 + 2) (.int .i64 c)).set (i * 4 + 3) (.int .i64 d) = wcells (l.set i (a, b, c, d)) := by
  induction l with
  | nil => intro i a b c d h; simp at h
  | cons k l ih =>
    intro i a b c d h
    match i, h with
    | 0, _ => simp [wcells]
    | i + 1, h =>
      have := ih i a b c d (by simpa using h)
      have e0 : (i + 1) * 4 = i * 4 + 1 + 1 + 1 + 1 := by omega
      have e1 : (i + 1) * 4 + 1 = i * 4 + 1 + 1 + 1 + 1 + 1 := by omega
      have e2 : (i + 1) * 4 + 2 = i * 4 + 2 + 1 + 1 + 1 + 1 := by omega
      have e3 : (i + 1) * 4 + 3 = i * 4 + 3 + 1 + 1 + 1 + 1 := by omega
      rw [e1, e2, e3, e0]
      simpa [wcells] using this
theorem partWraps_set (ws : List W4) (i : Nat) (h : i < ws.length) : (partWraps ws i).set i ws[i] = partWraps ws (i + 1) := by
  unfold partWraps
  have e : ws.length - i = (ws.length - (i + 1)) + 1 := by omega
  have hl : (ws.take i).length = i := by simp; omega
  rw [e, List.replicate_succ, List.take_succ_eq_append_getElem h, List.append_assoc, List.set_append_right _ _ (by omega), hl, Nat.sub_self, List.set_cons_zero]
  rfl
/-- The world with a wrap laid at place i of block g. -/
def putW (W : World) (g i : Nat) (a b c d : Int) : World := (((W.setCell ⟨g, i * 4, none⟩ (.int .i64 a)).setCell ⟨g, i * 4 + 1, none⟩ (.int .i64 b)).setCell ⟨g, i * 4 + 2, none⟩ (.int .i64 c)).setCell ⟨g, i * 4 + 3, none⟩ (.int .i64 d)
theorem Wraps.stored {B g cap : Nat} {l : List W4} {n : Nat} {W : World} (hn : l.length = n) (h : Wraps B (.slice (some ⟨g, 0, none⟩) n cap) l W) (i : Nat) (hi : i < l.length) (a b c d : Int) :
    Wraps B (.slice (some ⟨g, 0, none⟩) n cap) (l.set i (a, b, c, d)) (putW W g i a b c d) ∧ W.grownBy (putW W g i a b c d) (some g) := by
  subst hn
  have h1 := World.ownsRow.stored h (i * 4) (.int .i64 a)
  have h2 := h1.1.stored (i * 4 + 1) (.int .i64 b)
  have h3 := h2.1.stored (i * 4 + 2) (.int .i64 c)
  have h4 := h3.1.stored (i * 4 + 3) (.int .i64 d)
  rw [wcells_set _ _ _ _ _ _ hi] at h4
  refine ⟨?_, ((h1.2.trans h2.2).trans h3.2).trans h4.2⟩
  unfold Wraps
  rw [List.length_set]
  exact h4.1
theorem made_four (c : Value) (n : Nat) : (madeCells #[c, c, c, c] n).toList = List.replicate n c := by
  apply List.ext_getElem?
  intro j
  by_cases hj : j < n
  · have h2 : j % 4 = 0 ∨ j % 4 = 1 ∨ j % 4 = 2 ∨ j % 4 = 3 := by omega
    rcases h2 with h2 | h2 | h2 | h2 <;> simp [madeCells, hj, h2]
  · simp [madeCells, hj]
theorem wcells_zero (n : Nat) : wcells (List.replicate n (0, 0, 0, 0)) = List.replicate (n * 4) (.int .i64 0) := by
  induction n with
  | zero => rfl
  | succ n ih =>
    have e : (n + 1) * 4 = n * 4 + 1 + 1 + 1 + 1 := by omega
    rw [e, List.replicate_succ, List.replicate_succ, List.replicate_succ, List.replicate_succ, List.replicate_succ, ← ih]
    rfl

/-- A list of the laws' wraps, as it came in. -/
def InWraps (v : Value) (ws : List W4) (W : World) : Prop :=
  (∃ a c, v = .slice a 0 c ∧ ws = []) ∨ ∃ b off c, v = .slice (some ⟨b, off, none⟩) ws.length c ∧ b < W.heap.size ∧ ws.length ≤ maxLen ∧ WSeg b off ws W
theorem InWraps.below {v : Value} {ws : List W4} {W W' : World} {C : Nat} (h : InWraps v ws W) (hb : Below C W W') (hC : W.heap.size ≤ C) : InWraps v ws W' := by
  rcases h with h | ⟨b, off, c, e, hl, hm, hs⟩
  · exact .inl h
  · exact .inr ⟨b, off, c, e, by have := hb.size; omega, hm, hs.kept (hb.block b (by omega))⟩
theorem InWraps.len {v : Value} {ws : List W4} {W : World} (h : InWraps v ws W) : ∃ a c, v = .slice a ws.length c ∧ ws.length ≤ maxLen := by
  rcases h with ⟨a, c, rfl, rfl⟩ | ⟨b, off, c, rfl, _, hm, _⟩
  · exact ⟨_, _, rfl, Nat.zero_le _⟩
  · exact ⟨_, _, rfl, hm⟩

end Go.Proofs.YtapmgbnhobpahaaGreatDoor
/- What the reading of what came in leans on. -/
namespace Go.Proofs.YtapmgbnhobpahaaGreatDoor
open Go.ChangeShapes Go.WideShapes Go.ChangeAt Go.RowKit Go.Deep

theorem cells_i64 : Tryz.prog.cellsOf 2 = 1 := by kernel_rfl
theorem list_two {l : List Value} (h : l.length = 2) : ∃ a b, l = [a, b] := by
  match l, h with
  | [a, b], _ => exact ⟨a, b, rfl⟩
theorem list_four {l : List Value} (h : l.length = 4) : ∃ a b c d, l = [a, b, c, d] := by
  match l, h with
  | [a, b, c, d], _ => exact ⟨a, b, c, d, rfl⟩
theorem addr_spot {W : World} {a : Addr} {v : Value} (h : W.cell? (a.add 0) = some v) : ∃ b off, a = ⟨b, off, none⟩ := by
  obtain ⟨b, off, spot⟩ := a
  have hspot : spot = none := by simpa [Addr.add] using World.cell?_spot h
  exact ⟨b, off, by rw [hspot]⟩
end Go.Proofs.YtapmgbnhobpahaaGreatDoor
/- A list of the laws' keys that came in, opened: what the reading says of the cells. -/
namespace Go.Proofs.YtapmgbnhobpahaaGreatDoor
open Go.ChangeShapes Go.WideShapes Go.ChangeAt Go.RowKit Go.Deep

end Go.Proofs.YtapmgbnhobpahaaGreatDoor
/- What the laws' comparison of two lists of wraps does; a list of the laws' wraps that came in, opened. -/
namespace Go.Proofs.YtapmgbnhobpahaaGreatDoor
open Go.RowKit

def sameW (x y : W4) : Bool := sameK x.1 x.2.1 y.1 y.2.1 && sameK x.2.2.1 x.2.2.2 y.2.2.1 y.2.2.2
theorem sameW_iff (x y : W4) : sameW x y = true ↔ x = y := by
  obtain ⟨a, b, c, d⟩ := x
  obtain ⟨a', b', c', d'⟩ := y
  simp [sameW, sameK]
  omega

def eqLW (xs ys : List W4) : Bool := decide (xs = ys)
/-- Two wraps lie at k, in block g and in block g'. -/
def Cw (w : World) (g g' k : Nat) (x y : W4) (W : World) : Prop :=
  Cs4 w ⟨g, k * 4, none⟩ (.int .i64 x.1) ⟨g, k * 4 + 1, none⟩ (.int .i64 x.2.1) ⟨g, k * 4 + 2, none⟩ (.int .i64 x.2.2.1) ⟨g, k * 4 + 3, none⟩ (.int .i64 x.2.2.2) W ∧
  Cs4 w ⟨g', k * 4, none⟩ (.int .i64 y.1) ⟨g', k * 4 + 1, none⟩ (.int .i64 y.2.1) ⟨g', k * 4 + 2, none⟩ (.int .i64 y.2.2.1) ⟨g', k * 4 + 3, none⟩ (.int .i64 y.2.2.2) W
theorem Cw.later {w : World} {g g' k : Nat} {x y : W4} {W W' : World} (h : Cw w g g' k x y W) (hb : Below W.heap.size W W') : Cw w g g' k x y W' := ⟨h.1.later hb, h.2.later hb⟩

end Go.Proofs.YtapmgbnhobpahaaGreatDoor
/- Contracts of the model's helpers on rising keys: l2Has, l2Put. -/
namespace Go.Proofs.YtapmgbnhobpahaaGreatDoor
open Go.RowKit

end Go.Proofs.YtapmgbnhobpahaaGreatDoor
/- The cells of keys, as an append wants them. -/
namespace Go.Proofs.YtapmgbnhobpahaaGreatDoor
open Go.RowKit

/-- The cells of keys, as an append wants them. -/
theorem news_keys {g off : Nat} {ks : List (Int × Int)} {W : World} (h : KSeg g off ks W) : ∀ j u, (kcells ks)[j]? = some u → W.cell? ((⟨g, off, none⟩ : Addr).add j) = some u := by
  intro j u hu
  have hj : j < ks.length * 2 := by
    have := (List.getElem?_eq_some_iff.1 hu).1
    rwa [kcells_length] at this
  rw [Addr.add_mid]
  have h2 : j = j / 2 * 2 ∨ j = j / 2 * 2 + 1 := by omega
  have hi : j / 2 < ks.length := by omega
  obtain ⟨e1, e2⟩ := kcells_get ks (j / 2) hi
  obtain ⟨c1, c2⟩ := h (j / 2) hi
  rcases h2 with e | e
  · rw [e] at hu ⊢
    rw [e1] at hu
    rw [← hu]
    exact c1
  · rw [e] at hu ⊢
    rw [e2] at hu
    rw [← hu, ← Nat.add_assoc]
    exact c2
theorem one_kcells (ks : List (Int × Int)) : ∀ u ∈ kcells ks, u.oneCell' = true := by
  intro u hu
  simp only [kcells, List.mem_flatMap] at hu
  obtain ⟨x, _, h⟩ := hu
  simp at h
  rcases h with rfl | rfl <;> rfl
end Go.Proofs.YtapmgbnhobpahaaGreatDoor
/- The contract of the model's l2Put: rising keys, with one more. -/
namespace Go.Proofs.YtapmgbnhobpahaaGreatDoor
open Go.RowKit

theorem infoKey : (Tryz.prog.info? 54).map (fun i => (i.zero, i.size, i.bytes)) = some (some (.agg #[.int .i64 0, .int .i64 0]), 2, 16) := by kernel_rfl
theorem KSeg.take {g off : Nat} {ks : List (Int × Int)} {W : World} (h : KSeg g off ks W) (n : Nat) : KSeg g off (ks.take n) W := fun i hi => by
  have hi' : i < ks.length := by simp at hi; omega
  have := h i hi'
  simpa using this
theorem KSeg.drop {g off : Nat} {ks : List (Int × Int)} {W : World} (h : KSeg g off ks W) (n : Nat) : KSeg g (off + n * 2) (ks.drop n) W := fun i hi => by
  have hi' : n + i < ks.length := by simp at hi; omega
  have := h (n + i) hi'
  have e : off + n * 2 + i * 2 = off + (n + i) * 2 := by omega
  rw [e]
  simpa using this

/-- How many are ahead of k, from the first on. -/
def aheadN (ks : List (Int × Int)) (x y : Int) : Nat := (ks.takeWhile fun k => aheadB k.1 k.2 x y).length
def putL (ks : List (Int × Int)) (x y : Int) : List (Int × Int) :=
  if ks[aheadN ks x y]? = some (x, y) then ks else ks.take (aheadN ks x y) ++ [(x, y)] ++ ks.drop (aheadN ks x y)
theorem aheadN_le (ks : List (Int × Int)) (x y : Int) : aheadN ks x y ≤ ks.length := (List.takeWhile_sublist _).length_le
theorem aheadN_eq (ks : List (Int × Int)) (x y : Int) : ∀ n, n ≤ ks.length → (∀ i (hi : i < ks.length), i < n → aheadB ks[i].1 ks[i].2 x y = true) → (∀ (h : n < ks.length), aheadB ks[n].1 ks[n].2 x y = false) → aheadN ks x y = n := by
  induction ks with
  | nil => intro n hn _ _; simp at hn; subst hn; rfl
  | cons k ks ih =>
    intro n hn h1 h2
    cases n with
    | zero =>
      have := h2 (by simp)
      simp at this
      simp [aheadN, this]
    | succ n =>
      have h0 := h1 0 (by simp) (by omega)
      simp at h0
      have := ih n (by simpa using hn) (fun i hi hin => by have := h1 (i + 1) (by simpa using hi) (by omega); simpa using this) (fun h => by have := h2 (by simpa using h); simpa using this)
      simp [aheadN, h0] at this ⊢
      exact this

theorem cell_two_new (w : World) (x y : Int) (t : TypeId) : ∀ j u, [Value.int .i64 x, .int .i64 y][j]? = some u → (w.alloc (.cells #[.int .i64 x, .int .i64 y] t)).cell? ((⟨w.heap.size, 0, none⟩ : Addr).add j) = some u := by
  intro j u hu
  rw [Addr.add_mid, Nat.zero_add]
  match j, hu with
  | 0, hu => simp at hu; subst hu; simp
  | 1, hu => simp at hu; subst hu; simp
theorem emptyK (w : World) (B : Nat) (h : B ≤ w.heap.size) : (w.alloc (.cells #[] 54)).ownsRow B 54 2 (.slice (some ⟨w.heap.size, 0, none⟩) 0 0) 0 [] := World.ownsRow_lit (base := B) (size := 2) w #[] 0 h (by decide) rfl
theorem KSeg.below {b off : Nat} {ks : List (Int × Int)} {W W' : World} (h : KSeg b off ks W) (hb : Below W.heap.size W W') (hlt : b < W.heap.size) : KSeg b off ks W' := h.kept (hb.block b hlt)

/-- Behind the first of l2Put's appends. -/
theorem put_a {w W wA : World} {g k : Nat} {x y : Int} {ks : List (Int × Int)} {v1 : Value} (hBW : Below w.heap.size w W)
    (hs : KSeg g 0 ks W) (f0 : W.cell? ⟨w.heap.size, 0, none⟩ = some (.int .i64 x)) (f1 : W.cell? ⟨w.heap.size, 1, none⟩ = some (.int .i64 y)) (hg : g < w.heap.size)
    (own1 : wA.ownsRow w.heap.size 54 2 v1 (0 + k) ([] ++ kcells (ks.take k))) (gr1 : (W.alloc (.cells #[] 54)).grownBy wA (Value.slice (some ⟨W.heap.size, 0, none⟩) 0 0).ownBlock) :
    wA.ownsRow w.heap.size 54 2 v1 k (kcells (ks.take k)) ∧ wA.cell? ⟨w.heap.size, 0, none⟩ = some (.int .i64 x) ∧ wA.cell? ⟨w.heap.size, 1, none⟩ = some (.int .i64 y) ∧ Hid (KSeg g 0 ks wA) ∧ w.heap.size ≤ wA.heap.size ∧ Hid (Below w.heap.size w wA) := by
  have hlt := World.block_lt_of_cell? _ _ f0
  have hsW := hBW.size
  have hs1 := gr1.size
  simp at hlt hs1
  have hne : ∀ (b : Nat), b < W.heap.size → some b ≠ (Value.slice (some ⟨W.heap.size, 0, none⟩) 0 0).ownBlock := fun b hb e => by simp [Value.ownBlock] at e; omega
  refine ⟨by simpa using own1, gr1.cell ((World.grownBy_alloc W _ none).cell f0 (by simp)) (hne _ hlt), gr1.cell ((World.grownBy_alloc W _ none).cell f1 (by simp)) (hne _ hlt), ?_, by omega, ?_⟩
  · exact hs.kept ((gr1.block g (by simp; omega) (hne g (by omega))).trans (Below.heap_alloc _ _ _ (by omega)))
  · exact (hBW.alloc hsW _).grown gr1 (by simp; omega) (fun j e => by simp [Value.ownBlock] at e; omega)
/-- Behind the second of them. -/
theorem put_b {w wA wB : World} {g k : Nat} {ks : List (Int × Int)} {v1 : Value} {o : Obj} (hB : Below w.heap.size w wA) (own1 : wA.ownsRow w.heap.size 54 2 v1 k (kcells (ks.take k)))
    (hs : KSeg g 0 ks wA) (hg : g < w.heap.size) (gr2 : (wA.alloc o).grownBy wB v1.ownBlock) : Hid (KSeg g 0 ks wB) ∧ w.heap.size ≤ wB.heap.size ∧ Hid (Below w.heap.size w wB) := by
  have hsA := hB.size
  have hs2 := gr2.size
  simp at hs2
  refine ⟨?_, by omega, ?_⟩
  · exact hs.kept ((gr2.block g (by simp; omega) (fun e => by have := (World.ownsRow.lt own1 g e.symm).1; omega)).trans (Below.heap_alloc _ _ _ (by omega)))
  · exact (hB.alloc hsA _).grown gr2 (by simp; omega) (fun j e => (World.ownsRow.lt own1 j e).1)

end Go.Proofs.YtapmgbnhobpahaaGreatDoor
/- Sets of keys as lists that rise; what can be learned. -/
namespace Go.Proofs.YtapmgbnhobpahaaGreatDoor
open Go.RowKit

abbrev K2 := Int × Int
/-- One key is ahead of another one. -/
def Ah (a b : K2) : Prop := a.1 < b.1 ∨ a.1 = b.1 ∧ a.2 < b.2
theorem ah_iff (a b : K2) : aheadB a.1 a.2 b.1 b.2 = true ↔ Ah a b := by simp [aheadB, Ah]
theorem Ah.irr (a : K2) : ¬ Ah a a := by unfold Ah; omega
theorem Ah.trans {a b c : K2} (h : Ah a b) (k : Ah b c) : Ah a c := by unfold Ah at *; omega
theorem Ah.tri (a b : K2) : Ah a b ∨ a = b ∨ Ah b a := by
  obtain ⟨a1, a2⟩ := a; obtain ⟨b1, b2⟩ := b
  simp only [Ah, Prod.mk.injEq]
  omega
/-- Keys that rise. -/
def Rise (ks : List K2) : Prop := ks.Pairwise Ah

/-- Two lists that rise with the same members are one. -/
theorem Rise.eq : ∀ {a b : List K2}, Rise a → Rise b → (∀ x, x ∈ a ↔ x ∈ b) → a = b
  | [], [], _, _, _ => rfl
  | [], y :: b, _, _, h => by have := (h y).2 (by simp); simp at this
  | x :: a, [], _, _, h => by have := (h x).1 (by simp); simp at this
  | x :: a, y :: b, ha, hb, h => by
    have ha' := List.pairwise_cons.1 ha
    have hb' := List.pairwise_cons.1 hb
    have e : x = y := by
      rcases Ah.tri x y with t | t | t
      · have := (h x).1 (by simp)
        rcases List.mem_cons.1 this with e | e
        · exact e
        · exact absurd ((hb'.1 x e).trans t) (Ah.irr _)
      · exact t
      · have := (h y).2 (by simp)
        rcases List.mem_cons.1 this with e | e
        · exact e.symm
        · exact absurd ((ha'.1 y e).trans t) (Ah.irr _)
    subst e
    have hx : x ∉ a := fun m => Ah.irr _ (ha'.1 x m)
    have hy : x ∉ b := fun m => Ah.irr _ (hb'.1 x m)
    refine congrArg (x :: ·) (Rise.eq ha'.2 hb'.2 fun z => ⟨fun m => ?_, fun m => ?_⟩)
    · rcases List.mem_cons.1 ((h z).1 (List.mem_cons_of_mem _ m)) with e | e
      · subst e; exact absurd m hx
      · exact e
    · rcases List.mem_cons.1 ((h z).2 (List.mem_cons_of_mem _ m)) with e | e
      · subst e; exact absurd m hy
      · exact e

def putR : List K2 → K2 → List K2
  | [], k => [k]
  | a :: l, k => if aheadB a.1 a.2 k.1 k.2 then a :: putR l k else if a = k then a :: l else k :: a :: l
theorem putL_eq (ks : List K2) (k : K2) : putL ks k.1 k.2 = putR ks k := by
  induction ks with
  | nil => rfl
  | cons a l ih =>
    by_cases h : aheadB a.1 a.2 k.1 k.2 = true
    · have e : aheadN (a :: l) k.1 k.2 = aheadN l k.1 k.2 + 1 := by simp [aheadN, h]
      simp only [putR, h, if_true]
      rw [← ih]
      simp only [putL, e, List.getElem?_cons_succ, List.take_succ_cons, List.drop_succ_cons]
      split <;> simp
    · have e : aheadN (a :: l) k.1 k.2 = 0 := by simp [aheadN, h]
      simp only [putR, h, putL, e, List.getElem?_cons_zero, Option.some.injEq]
      by_cases hk : a = k
      · subst hk; simp
      · have : ¬ a = (k.1, k.2) := hk
        simp [hk]
theorem putR_mem (ks : List K2) (k x : K2) : x ∈ putR ks k ↔ x = k ∨ x ∈ ks := by
  induction ks with
  | nil => simp [putR]
  | cons a l ih =>
    by_cases h : aheadB a.1 a.2 k.1 k.2 = true
    · simp only [putR, h, if_true, List.mem_cons, ih]
      constructor <;> (rintro (h | h | h) <;> simp [h])
    · by_cases hk : a = k
      · subst hk; simp only [putR, h]; simp
      · simp only [putR, h, hk]; simp
theorem putR_rise (ks : List K2) (k : K2) (h : Rise ks) : Rise (putR ks k) := by
  induction ks with
  | nil => simp [putR, Rise]
  | cons a l ih =>
    have h' := List.pairwise_cons.1 h
    by_cases ha : aheadB a.1 a.2 k.1 k.2 = true
    · simp only [putR, ha, if_true]
      refine List.pairwise_cons.2 ⟨fun x hx => ?_, ih h'.2⟩
      rcases (putR_mem l k x).1 hx with e | e
      · subst e; exact (ah_iff _ _).1 ha
      · exact h'.1 x e
    · by_cases hk : a = k
      · subst hk; simpa only [putR, ha, if_true, if_false, Bool.false_eq_true] using h
      · simp only [putR, ha, hk, if_false]
        have hka : Ah k a := by
          rcases Ah.tri k a with t | t | t
          · exact t
          · exact absurd t.symm hk
          · exact absurd ((ah_iff _ _).2 t) ha
        refine List.pairwise_cons.2 ⟨fun x hx => ?_, h⟩
        rcases List.mem_cons.1 hx with e | e
        · subst e; exact hka
        · exact hka.trans (h'.1 x e)
theorem putR_length (ks : List K2) (k : K2) (h : Rise ks) (hn : k ∉ ks) : (putR ks k).length = ks.length + 1 := by
  induction ks with
  | nil => rfl
  | cons a l ih =>
    have h' := List.pairwise_cons.1 h
    simp only [List.mem_cons, not_or] at hn
    by_cases ha : aheadB a.1 a.2 k.1 k.2 = true
    · simp only [putR, ha, if_true, List.length_cons, ih h'.2 hn.2]
    · have : ¬ a = k := fun e => hn.1 e.symm
      simp only [putR, ha, this, if_false, List.length_cons, Bool.false_eq_true]

abbrev wUnder (x : W4) : K2 := (x.1, x.2.1)
abbrev wKey (x : W4) : K2 := (x.2.2.1, x.2.2.2)
/-- What can be learned. -/
def Lrn (ks : List K2) (ws : List W4) (k : K2) : Prop := ∀ S : K2 → Prop, (∀ k ∈ ks, S k) → (∀ x ∈ ws, S (wUnder x) → S (wKey x)) → S k
theorem Lrn.known {ks : List K2} {ws : List W4} (k : K2) (h : k ∈ ks) : Lrn ks ws k := fun _ h1 _ => h1 k h
theorem Lrn.wrap {ks : List K2} {ws : List W4} (x : W4) (h : x ∈ ws) (l : Lrn ks ws (wUnder x)) : Lrn ks ws (wKey x) := fun S h1 h2 => h2 x h (l S h1 h2)
/-- How many wraps are still to open. -/
def left (ws : List W4) (out : List K2) : Nat := (ws.filter fun x => decide (wKey x ∉ out)).length
theorem left_put (ws : List W4) (out : List K2) (x : W4) (hx : x ∈ ws) (hn : wKey x ∉ out) : left ws (putR out (wKey x)) + 1 ≤ left ws out := by
  unfold left
  induction ws with
  | nil => cases hx
  | cons a l ih =>
    have hle : (l.filter fun x' => decide (wKey x' ∉ putR out (wKey x))).length ≤ (l.filter fun x' => decide (wKey x' ∉ out)).length := by
      clear ih hx
      induction l with
      | nil => simp
      | cons b l ih =>
        by_cases h1 : wKey b ∉ putR out (wKey x)
        · have h2 : wKey b ∉ out := fun h => h1 ((putR_mem _ _ _).2 (.inr h))
          rw [List.filter_cons_of_pos (by simpa using h1), List.filter_cons_of_pos (by simpa using h2)]
          simpa using ih
        · rw [List.filter_cons_of_neg (by simpa using h1)]
          by_cases h2 : wKey b ∉ out
          · rw [List.filter_cons_of_pos (by simpa using h2)]
            simp only [List.length_cons]
            omega
          · rw [List.filter_cons_of_neg (by simpa using h2)]
            exact ih
    by_cases e : wKey a = wKey x
    · rw [List.filter_cons_of_neg (by rw [e]; simp [(putR_mem out (wKey x) (wKey x)).2 (.inl rfl)]), List.filter_cons_of_pos (by rw [e]; simpa using hn)]
      simp only [List.length_cons]
      omega
    · have hx' : x ∈ l := by
        rcases List.mem_cons.1 hx with h | h
        · subst h; exact absurd rfl e
        · exact h
      have := ih hx'
      by_cases h1 : wKey a ∉ out
      · have h2 : wKey a ∉ putR out (wKey x) := fun h => by rcases (putR_mem _ _ _).1 h with h | h; exact e h; exact h1 h
        rw [List.filter_cons_of_pos (by simpa using h2), List.filter_cons_of_pos (by simpa using h1)]
        simp only [List.length_cons]
        omega
      · have h2 : ¬ wKey a ∉ putR out (wKey x) := fun h => h1 fun m => h ((putR_mem _ _ _).2 (.inr m))
        rw [List.filter_cons_of_neg (by simpa using h2), List.filter_cons_of_neg (by simpa using h1)]
        exact this
theorem left_le (ws : List W4) (out : List K2) : left ws out ≤ ws.length := List.length_filter_le _ _

/-- What stands of l2Learned's answer on its way. -/
structure Sofar (ks : List K2) (ws : List W4) (out : List K2) : Prop where
  rise : Rise out
  has : ∀ k ∈ ks, k ∈ out
  lrn : ∀ k ∈ out, Lrn ks ws k
  few : out.length + left ws out ≤ ks.length + ws.length
theorem Sofar.start (ks : List K2) (ws : List W4) (h : Rise ks) : Sofar ks ws ks := ⟨h, fun _ h => h, fun k h => Lrn.known k h, by have := left_le ws ks; omega⟩
theorem Sofar.put {ks : List K2} {ws : List W4} {out : List K2} (h : Sofar ks ws out) (x : W4) (hx : x ∈ ws) (hu : wUnder x ∈ out) (hk : wKey x ∉ out) : Sofar ks ws (putR out (wKey x)) ∧ (putR out (wKey x)).length = out.length + 1 := by
  have hl := putR_length out (wKey x) h.rise hk
  refine ⟨⟨putR_rise _ _ h.rise, fun k hk => (putR_mem _ _ _).2 (.inr (h.has k hk)), fun k hm => ?_, ?_⟩, hl⟩
  · rcases (putR_mem _ _ _).1 hm with e | e
    · rw [e]; exact Lrn.wrap x hx (h.lrn _ hu)
    · exact h.lrn k e
  · have := left_put ws out x hx hk
    have := h.few
    omega
theorem Sofar.done {ks : List K2} {ws : List W4} {out : List K2} (h : Sofar ks ws out) (hc : ∀ x ∈ ws, wUnder x ∈ out → wKey x ∈ out) (k : K2) : k ∈ out ↔ Lrn ks ws k := by
  refine ⟨h.lrn k, fun l => ?_⟩
  exact l (fun k => k ∈ out) h.has hc
end Go.Proofs.YtapmgbnhobpahaaGreatDoor
/- markWrapS: it writes into its own row alone. -/
namespace Go.Proofs.YtapmgbnhobpahaaGreatDoor
open Go.RowKit

end Go.Proofs.YtapmgbnhobpahaaGreatDoor
/- Structs of three cells in memory: what is read there, and what a store makes of them. -/
namespace Go.Proofs.YtapmgbnhobpahaaGreatDoor
open Go.RowKit

theorem box3 {R : Nat} {W : World} {u v x : Value} {t : TypeId} (h : W.heap[R]? = some (.cells #[u, v, x] t)) :
    (W.cell? ⟨R, 0, none⟩ = some u ∧ W.cell? ⟨R, 1, none⟩ = some v ∧ W.cell? ⟨R, 2, none⟩ = some x) ∧ W.frozen? ⟨R, 0, none⟩ = false ∧ W.frozen? ⟨R, 1, none⟩ = false ∧ W.frozen? ⟨R, 2, none⟩ = false := by
  simp [World.cell?, World.frozen?, h]
theorem box3_set0 {R : Nat} {W : World} {u v x : Value} {t : TypeId} (h : W.heap[R]? = some (.cells #[u, v, x] t)) (y : Value) : (W.setCell ⟨R, 0, none⟩ y).heap[R]? = some (.cells #[y, v, x] t) := by
  simp [World.setCell, Array.getElem?_modify, h]
theorem box3_set1 {R : Nat} {W : World} {u v x : Value} {t : TypeId} (h : W.heap[R]? = some (.cells #[u, v, x] t)) (y : Value) : (W.setCell ⟨R, 1, none⟩ y).heap[R]? = some (.cells #[u, y, x] t) := by
  simp [World.setCell, Array.getElem?_modify, h]
theorem box3_set2 {R : Nat} {W : World} {u v x : Value} {t : TypeId} (h : W.heap[R]? = some (.cells #[u, v, x] t)) (y : Value) : (W.setCell ⟨R, 2, none⟩ y).heap[R]? = some (.cells #[u, v, y] t) := by
  simp [World.setCell, Array.getElem?_modify, h]
theorem grown_set (W : World) (b o : Nat) (v : Value) : W.grownBy (W.setCell ⟨b, o, none⟩ v) (some b) :=
  ⟨rfl, rfl, rfl, by simp, fun k _ hne => by simp [World.setCell, Array.getElem?_modify, show b ≠ k from fun e => hne (by rw [e])]⟩
theorem blk' {W W' : World} {R k : Nat} {o : Obj} (hg : W.grownBy W' (some R)) (h : W.heap[k]? = some o) (hne : k ≠ R) : W'.heap[k]? = some o :=
  (hg.block k (Array.getElem?_eq_some_iff.1 h).1 (fun e => hne (by cases e; rfl))).trans h
/-- A store into memory of the call's own turns nothing below. -/
theorem below_set {n : Nat} {w W : World} (h : Below n w W) (b o : Nat) (v : Value) (hb : n ≤ b) (hn : n ≤ W.heap.size) : Below n w (W.setCell ⟨b, o, none⟩ v) :=
  h.grown (grown_set W b o v) hn (fun k e => by cases e; exact hb)
end Go.Proofs.YtapmgbnhobpahaaGreatDoor
/- What the exact laws' helpers on rekeys do: toRekey, szRekey, eqRekey, markRekey. -/
namespace Go.Proofs.YtapmgbnhobpahaaGreatDoor
open Go.RowKit

theorem box2R {R : Nat} {W : World} {u v : Value} {t : TypeId} (h : W.heap[R]? = some (.cells #[u, v] t)) :
    (W.cell? ⟨R, 0, none⟩ = some u ∧ W.cell? ⟨R, 1, none⟩ = some v) ∧ W.frozen? ⟨R, 0, none⟩ = false ∧ W.frozen? ⟨R, 1, none⟩ = false := by
  simp [World.cell?, World.frozen?, h]
theorem box2R_set0 {R : Nat} {W : World} {u v : Value} {t : TypeId} (h : W.heap[R]? = some (.cells #[u, v] t)) (y : Value) : (W.setCell ⟨R, 0, none⟩ y).heap[R]? = some (.cells #[y, v] t) := by
  simp [World.setCell, Array.getElem?_modify, h]
theorem box2R_set1 {R : Nat} {W : World} {u v : Value} {t : TypeId} (h : W.heap[R]? = some (.cells #[u, v] t)) (y : Value) : (W.setCell ⟨R, 1, none⟩ y).heap[R]? = some (.cells #[u, y] t) := by
  simp [World.setCell, Array.getElem?_modify, h]
theorem wrapsKept {B : Nat} {v : Value} {ws : List W4} {W W' : World} {row : Option Nat} (h : Wraps B v ws W) (hg : W.grownBy W' row) (hne : ∀ k, row = some k → v.ownBlock ≠ some k) : Wraps B v ws W' :=
  RowF.kept (r := ⟨B, 56, 4, v, ws.length, wcells ws⟩) h hg hne
theorem wrapsRow {B : Nat} {v : Value} {ws : List W4} {w : World} (h : Wraps B v ws w) : ∃ a c, v = .slice a ws.length c := by
  rcases h.form with ⟨rfl, rfl⟩ | ⟨g, cap, rfl, _⟩ <;> exact ⟨_, _, rfl⟩

def sameR (top : Int) (xs : List W4) (top' : Int) (xs' : List W4) : Bool := decide (top = top') && eqLW xs xs'
theorem sameR_self (top : Int) (xs : List W4) : sameR top xs top xs = true := by simp [sameR, eqLW]
end Go.Proofs.YtapmgbnhobpahaaGreatDoor
/- An op off the program's reader. -/
namespace Go.Proofs.YtapmgbnhobpahaaGreatDoor
open Go.RowKit Go.Shelf
namespace Tx

abbrev sJoin : List UInt8 := [106, 111, 105, 110, 32]
abbrev sLeave : List UInt8 := [108, 101, 97, 118, 101, 32]
abbrev sRefresh : List UInt8 := [114, 101, 102, 114, 101, 115, 104]
/-- A number behind a word is the op's member. -/
def pMem (k : Int) (l : List UInt8) : Option ((Int × Int) × List UInt8) := (pNum l).bind fun x => if formB k x.1 = true then some ((k, x.1), x.2) else none
def pOp (l : List UInt8) : Option ((Int × Int) × List UInt8) :=
  if Lib.hasPrefix l sJoin = true then pMem 1 (l.drop 5) else if Lib.hasPrefix l sLeave = true then pMem 2 (l.drop 6) else (pNeed sRefresh l).map fun r => ((3, 0), r)

/-- The package's error errForm holds an error, and its place is not the reader's. -/
def FormX (b : Nat) (w : World) : Prop := HasForm w ∧ b ≠ 0
theorem FormX.grown {b : Nat} {w w' : World} (h : FormX b w) (hg : w.grownBy w' (some b)) : FormX b w' := by
  obtain ⟨⟨t, v, h⟩, hb⟩ := h
  exact ⟨⟨t, v, hg.cell h (by simpa using fun e => hb e.symm)⟩, hb⟩
theorem FormX.since {b : Nat} {w w' : World} (h : FormX b w) (hb : Below w.heap.size w w') : FormX b w' := ⟨h.1.since hb, h.2⟩

theorem blk2 {w : World} {b : Nat} {x y : Value} {t : TypeId} (h : w.heap[b]? = some (.cells #[x, y] t)) : w.cell? ⟨b, 0, none⟩ = some x ∧ w.cell? ⟨b, 1, none⟩ = some y ∧ w.frozen? ⟨b, 0, none⟩ = false ∧ w.frozen? ⟨b, 1, none⟩ = false := by
  simp [World.cell?, World.frozen?, h]
theorem grown_ext {a b c : World} {r : Option Nat} (h : a.grownBy b r) (hb : Below b.heap.size b c) : a.grownBy c r := h.trans ⟨hb.os, hb.tape, hb.output, hb.size, fun i hi _ => hb.block i hi⟩
theorem below_grown {w w' : World} (hb : Below w.heap.size w w') (r : Option Nat) : w.grownBy w' r := grown_ext (World.grownBy.refl _ _) hb

theorem heap_new (w : World) (o : Obj) : (w.alloc o).heap[w.heap.size]? = some o := by
  show (w.heap.push o)[w.heap.size]? = some o
  simp
theorem heap_old (w : World) (o : Obj) {i : Nat} (h : i < w.heap.size) : (w.alloc o).heap[i]? = w.heap[i]? := by
  show (w.heap.push o)[i]? = _
  simp [Array.getElem?_push, Nat.ne_of_lt h]
theorem set2 {w : World} {q : Nat} {x y : Value} {t : TypeId} (x' y' : Value) (h : w.heap[q]? = some (.cells #[x, y] t)) :
    ((w.setCell ⟨q, 0, none⟩ x').setCell ⟨q, 1, none⟩ y').heap[q]? = some (.cells #[x', y'] t) ∧ w.grownBy ((w.setCell ⟨q, 0, none⟩ x').setCell ⟨q, 1, none⟩ y') (some q) := by
  have e1 : (w.setCell ⟨q, 0, none⟩ x').heap[q]? = some (.cells #[x', y] t) := by
    simp only [World.setCell, Array.getElem?_modify, h]
    simp
  refine ⟨?_, ⟨rfl, rfl, rfl, ?_, fun i hi hne => ?_⟩⟩
  · generalize w.setCell ⟨q, 0, none⟩ x' = w1 at e1
    simp only [World.setCell, Array.getElem?_modify, e1]
    simp
  · simp [World.setCell]
  · have hq : ¬ q = i := fun e => hne (by rw [e])
    simp [World.setCell, Array.getElem?_modify, hq]
set_option maxRecDepth 100000 in
theorem op_any (b : Nat) (ev : Value) (l : List UInt8) (w : World) (h : Rdr b l w) (hN : NoText b ev w) (hF : FormX b w) (hl : l.length ≤ 1048576) :
    Calls Tryz.prog 25 #[rp b] w fun e w' => Ends b ev w ((pOp l).map fun x => (kv x.1.1 x.1.2, x.2)) e w' := by
  have HR := hidT h
  have HN := hidT hN
  have HF := hidT hF
  have hbl := h.lt
  have G0 := hidT (((World.grownBy.refl w (some b)).trans (World.grownBy_alloc w (opb 0 0) (some b))).trans (World.grownBy_alloc _ (opb 0 0) (some b)))
  have R0 : Hid (Rdr b l ((w.alloc (opb 0 0)).alloc (opb 0 0))) := (h.since (oneB _ _)).since (oneB _ _)
  have P0 := hidT (show ((w.alloc (opb 0 0)).alloc (opb 0 0)).heap[w.heap.size]? = some (opb 0 0) from (heap_old _ _ (by simp)).trans (heap_new _ _))
  have Q0 := hidT (show ((w.alloc (opb 0 0)).alloc (opb 0 0)).heap[w.heap.size + 1]? = some (opb 0 0) by have := heap_new (w.alloc (opb 0 0)) (opb 0 0); rwa [World.size_alloc] at this)
  clear h hN hF
  go_enter Tryz.func25, Tryz.ntmps25
  go_wp2_with fail
  refine (takes_any b l sJoin _ R0.out).mono ?_
  rintro e w1 ⟨rfl, hw1⟩
  cases hj : Lib.hasPrefix l sJoin with
  | true =>
    rw [trim_is hj] at hw1
    have G1 := hidT (show w.grownBy w1 (some b) by rw [hw1]; exact G0.out.trans (setBy _ _))
    have R1 := hidT (show Rdr b (l.drop 5) w1 by rw [hw1]; exact R0.out.set)
    have P1 := hidT (show w1.heap[w.heap.size]? = some (opb 0 0) by rw [hw1, (setBy (b := b) _ _).block _ (cell_lt (blk2 P0.out).1) (by simp; omega)]; exact P0.out)
    have Q1 := hidT (show w1.heap[w.heap.size + 1]? = some (opb 0 0) by rw [hw1, (setBy (b := b) _ _).block _ (cell_lt (blk2 Q0.out).1) (by simp; omega)]; exact Q0.out)
    clear hw1
    go_wp2_with fail
    refine (number_any b ev _ w1 R1.out (HN.out.grown G1.out) (by simp; omega)).mono ?_
    rintro e w2 (⟨v, l', hv, rfl, R2, g2⟩ | ⟨hv, rfl, g2⟩)
    · obtain ⟨m, hm, rfl⟩ : ∃ m, Hid (pNum (l.drop 5) = some (m, l')) ∧ v = .int .i64 m := by
        cases hn : pNum (l.drop 5) with
        | none => simp [hn] at hv
        | some x =>
          simp [hn] at hv
          obtain ⟨e1, e2⟩ := hv
          exact ⟨x.1, hidT (by rw [← e2]), e1.symm⟩
      have Q2 := hidT ((g2.block _ (cell_lt (blk2 Q1.out).1) (by simp; omega)).trans Q1.out)
      have P2 := hidT ((g2.block _ (cell_lt (blk2 P1.out).1) (by simp; omega)).trans P1.out)
      have G2 := hidT (G1.out.trans g2)
      have R2 := hidT R2
      obtain ⟨c0, c1, f0, f1⟩ := blk2 Q2.out
      clear g2 hv
      go_wp2_with fail
      have HS := hidT (set2 (.int .i64 1) (.int .i64 m) Q2.out)
      have G3 := hidT (G2.out.andThen HS.out.2 (fun j e => .inl (by cases e; first | omega | exact Nat.le_refl _)))
      have P3 := hidT ((HS.out.2.block _ (cell_lt (blk2 P2.out).1) (by simp)).trans P2.out)
      have R3 : Hid (Rdr b l' _) := (HS.out.2.block b R2.out.lt (by simp; omega)).trans R2.out
      have Q3 := hidT HS.out.1
      clear HS c0 c1 f0 f1
      generalize ((w2.setCell ⟨w.heap.size + 1, 0, none⟩ (.int .i64 1)).setCell ⟨w.heap.size + 1, 1, none⟩ (.int .i64 m)) = w3 at G3 P3 R3 Q3 ⊢
      refine (opOk_any 1 m w3 (HF.out.grown G3.out).1).mono ?_
      rintro e w4 ⟨rfl, hb4⟩
      have G4 := hidT (grown_ext G3.out hb4)
      have P4 := hidT ((hb4.block _ (cell_lt (blk2 P3.out).1)).trans P3.out)
      have Q4 := hidT ((hb4.block _ (cell_lt (blk2 Q3.out).1)).trans Q3.out)
      have R4 := hidT (R3.out.since hb4)
      obtain ⟨c0, c1, f0, f1⟩ := blk2 Q4.out
      obtain ⟨d0, d1, z0, z1⟩ := blk2 P4.out
      clear hb4
      cases hf : formB 1 m with
      | true =>
        have HT := hidT (set2 (.int .i64 1) (.int .i64 m) P4.out)
        have G5 := hidT (G4.out.andThen HT.out.2 (fun j e => .inl (by cases e; first | omega | exact Nat.le_refl _)))
        have R5 : Hid (Rdr b l' _) := (HT.out.2.block b R4.out.lt (by simp; omega)).trans R4.out
        have P5 := hidT HT.out.1
        clear HT
        go_wp2
        generalize ((w4.setCell ⟨w.heap.size, 0, none⟩ (.int .i64 1)).setCell ⟨w.heap.size, 1, none⟩ (.int .i64 m)) = w5 at G5 R5 P5 ⊢
        obtain ⟨e0, e1, _, _⟩ := blk2 P5.out
        refine bodyPost_ret (v := kv 1 m) (by simp [results, Tryz.results25, go_sem, e0, e1]) rfl (.inl ⟨_, l', ?_, rfl, R5.out, G5.out⟩)
        simp [pOp, hj, pMem, hm.out, hf]
      | false =>
        go_wp2_with (go_at_call 45; refine (giveUp_any b ev _ (HN.out.grown G4.out)).mono ?_; rintro e w' ⟨rfl, rfl⟩)
        exact ⟨rfl, .inr ⟨by simp [pOp, hj, pMem, hm.out, hf], rfl, G4.out⟩⟩
    · exact ⟨rfl, .inr ⟨by
        have : pNum (l.drop 5) = none := by simpa using hv
        simp [pOp, hj, pMem, this], rfl, G1.out.trans g2⟩⟩
  | false =>
    rw [trim_not hj] at hw1
    have GA := hidT (show w.grownBy w1 (some b) by rw [hw1]; exact G0.out.trans (setBy _ _))
    have RA := hidT (show Rdr b l w1 by rw [hw1]; exact R0.out.set)
    have PA := hidT (show w1.heap[w.heap.size]? = some (opb 0 0) by rw [hw1, (setBy (b := b) _ _).block _ (cell_lt (blk2 P0.out).1) (by simp; omega)]; exact P0.out)
    have QA := hidT (show w1.heap[w.heap.size + 1]? = some (opb 0 0) by rw [hw1, (setBy (b := b) _ _).block _ (cell_lt (blk2 Q0.out).1) (by simp; omega)]; exact Q0.out)
    clear hw1
    go_wp2_with fail
    refine (takes_any b l sLeave _ RA.out).mono ?_
    rintro e w1 ⟨rfl, hw1⟩
    cases hv0 : Lib.hasPrefix l sLeave with
    | true =>
      rw [trim_is hv0] at hw1
      have G1 := hidT (show w.grownBy w1 (some b) by rw [hw1]; exact GA.out.trans (setBy _ _))
      have R1 := hidT (show Rdr b (l.drop 6) w1 by rw [hw1]; exact RA.out.set)
      have P1 := hidT (show w1.heap[w.heap.size]? = some (opb 0 0) by rw [hw1, (setBy (b := b) _ _).block _ (cell_lt (blk2 PA.out).1) (by simp; omega)]; exact PA.out)
      have Q1 := hidT (show w1.heap[w.heap.size + 1]? = some (opb 0 0) by rw [hw1, (setBy (b := b) _ _).block _ (cell_lt (blk2 QA.out).1) (by simp; omega)]; exact QA.out)
      clear hw1
      go_wp2_with fail
      refine (number_any b ev _ w1 R1.out (HN.out.grown G1.out) (by simp; omega)).mono ?_
      rintro e w2 (⟨v, l', hv, rfl, R2, g2⟩ | ⟨hv, rfl, g2⟩)
      · obtain ⟨m, hm, rfl⟩ : ∃ m, Hid (pNum (l.drop 6) = some (m, l')) ∧ v = .int .i64 m := by
          cases hn : pNum (l.drop 6) with
          | none => simp [hn] at hv
          | some x =>
            simp [hn] at hv
            obtain ⟨e1, e2⟩ := hv
            exact ⟨x.1, hidT (by rw [← e2]), e1.symm⟩
        have Q2 := hidT ((g2.block _ (cell_lt (blk2 Q1.out).1) (by simp; omega)).trans Q1.out)
        have P2 := hidT ((g2.block _ (cell_lt (blk2 P1.out).1) (by simp; omega)).trans P1.out)
        have G2 := hidT (G1.out.trans g2)
        have R2 := hidT R2
        obtain ⟨c0, c1, f0, f1⟩ := blk2 Q2.out
        clear g2 hv
        go_wp2_with fail
        have HS := hidT (set2 (.int .i64 2) (.int .i64 m) Q2.out)
        have G3 := hidT (G2.out.andThen HS.out.2 (fun j e => .inl (by cases e; first | omega | exact Nat.le_refl _)))
        have P3 := hidT ((HS.out.2.block _ (cell_lt (blk2 P2.out).1) (by simp)).trans P2.out)
        have R3 : Hid (Rdr b l' _) := (HS.out.2.block b R2.out.lt (by simp; omega)).trans R2.out
        have Q3 := hidT HS.out.1
        clear HS c0 c1 f0 f1
        generalize ((w2.setCell ⟨w.heap.size + 1, 0, none⟩ (.int .i64 2)).setCell ⟨w.heap.size + 1, 1, none⟩ (.int .i64 m)) = w3 at G3 P3 R3 Q3 ⊢
        refine (opOk_any 2 m w3 (HF.out.grown G3.out).1).mono ?_
        rintro e w4 ⟨rfl, hb4⟩
        have G4 := hidT (grown_ext G3.out hb4)
        have P4 := hidT ((hb4.block _ (cell_lt (blk2 P3.out).1)).trans P3.out)
        have Q4 := hidT ((hb4.block _ (cell_lt (blk2 Q3.out).1)).trans Q3.out)
        have R4 := hidT (R3.out.since hb4)
        obtain ⟨c0, c1, f0, f1⟩ := blk2 Q4.out
        obtain ⟨d0, d1, z0, z1⟩ := blk2 P4.out
        clear hb4
        cases hf : formB 2 m with
        | true =>
          have HT := hidT (set2 (.int .i64 2) (.int .i64 m) P4.out)
          have G5 := hidT (G4.out.andThen HT.out.2 (fun j e => .inl (by cases e; first | omega | exact Nat.le_refl _)))
          have R5 : Hid (Rdr b l' _) := (HT.out.2.block b R4.out.lt (by simp; omega)).trans R4.out
          have P5 := hidT HT.out.1
          clear HT
          go_wp2
          generalize ((w4.setCell ⟨w.heap.size, 0, none⟩ (.int .i64 2)).setCell ⟨w.heap.size, 1, none⟩ (.int .i64 m)) = w5 at G5 R5 P5 ⊢
          obtain ⟨e0, e1, _, _⟩ := blk2 P5.out
          refine bodyPost_ret (v := kv 2 m) (by simp [results, Tryz.results25, go_sem, e0, e1]) rfl (.inl ⟨_, l', ?_, rfl, R5.out, G5.out⟩)
          simp [pOp, hj, hv0, pMem, hm.out, hf]
        | false =>
          go_wp2_with (go_at_call 45; refine (giveUp_any b ev _ (HN.out.grown G4.out)).mono ?_; rintro e w' ⟨rfl, rfl⟩)
          exact ⟨rfl, .inr ⟨by simp [pOp, hj, hv0, pMem, hm.out, hf], rfl, G4.out⟩⟩
      · exact ⟨rfl, .inr ⟨by
          have : pNum (l.drop 6) = none := by simpa using hv
          simp [pOp, hj, hv0, pMem, this], rfl, G1.out.trans g2⟩⟩
    | false =>
      rw [trim_not hv0] at hw1
      have G1 := hidT (show w.grownBy w1 (some b) by rw [hw1]; exact GA.out.trans (setBy _ _))
      have R1 := hidT (show Rdr b l w1 by rw [hw1]; exact RA.out.set)
      have P1 := hidT (show w1.heap[w.heap.size]? = some (opb 0 0) by rw [hw1, (setBy (b := b) _ _).block _ (cell_lt (blk2 PA.out).1) (by simp; omega)]; exact PA.out)
      have Q1 := hidT (show w1.heap[w.heap.size + 1]? = some (opb 0 0) by rw [hw1, (setBy (b := b) _ _).block _ (cell_lt (blk2 QA.out).1) (by simp; omega)]; exact QA.out)
      clear hw1
      go_wp2_with fail
      refine (need_any b ev l sRefresh w1 R1.out (HN.out.grown G1.out)).mono ?_
      rintro e w2 (⟨v, l', hv, rfl, R2, g2⟩ | ⟨hv, rfl, g2⟩)
      · obtain ⟨hm, rfl⟩ : Hid (pNeed sRefresh l = some l') ∧ v = .tuple #[] := by
          cases hn : pNeed sRefresh l with
          | none => simp [hn] at hv
          | some x =>
            simp [hn] at hv
            obtain ⟨e1, e2⟩ := hv
            exact ⟨hidT (by rw [← e2]), e1.symm⟩
        have Q2 := hidT ((g2.block _ (cell_lt (blk2 Q1.out).1) (by simp; omega)).trans Q1.out)
        have P2 := hidT ((g2.block _ (cell_lt (blk2 P1.out).1) (by simp; omega)).trans P1.out)
        have G2 := hidT (G1.out.trans g2)
        have R2 := hidT R2
        obtain ⟨c0, c1, f0, f1⟩ := blk2 Q2.out
        clear g2 hv
        go_wp2_with fail
        have HS := hidT (set2 (.int .i64 3) (.int .i64 0) Q2.out)
        have G3 := hidT (G2.out.andThen HS.out.2 (fun j e => .inl (by cases e; first | omega | exact Nat.le_refl _)))
        have P3 := hidT ((HS.out.2.block _ (cell_lt (blk2 P2.out).1) (by simp)).trans P2.out)
        have R3 : Hid (Rdr b l' _) := (HS.out.2.block b R2.out.lt (by simp; omega)).trans R2.out
        have Q3 := hidT HS.out.1
        clear HS c0 c1 f0 f1
        generalize ((w2.setCell ⟨w.heap.size + 1, 0, none⟩ (.int .i64 3)).setCell ⟨w.heap.size + 1, 1, none⟩ (.int .i64 0)) = w3 at G3 P3 R3 Q3 ⊢
        refine (opOk_any 3 0 w3 (HF.out.grown G3.out).1).mono ?_
        rintro e w4 ⟨rfl, hb4⟩
        have G4 := hidT (grown_ext G3.out hb4)
        have P4 := hidT ((hb4.block _ (cell_lt (blk2 P3.out).1)).trans P3.out)
        have Q4 := hidT ((hb4.block _ (cell_lt (blk2 Q3.out).1)).trans Q3.out)
        have R4 := hidT (R3.out.since hb4)
        obtain ⟨c0, c1, f0, f1⟩ := blk2 Q4.out
        obtain ⟨d0, d1, z0, z1⟩ := blk2 P4.out
        clear hb4
        cases hf : formB 3 0 with
        | true =>
          have HT := hidT (set2 (.int .i64 3) (.int .i64 0) P4.out)
          have G5 := hidT (G4.out.andThen HT.out.2 (fun j e => .inl (by cases e; first | omega | exact Nat.le_refl _)))
          have R5 : Hid (Rdr b l' _) := (HT.out.2.block b R4.out.lt (by simp; omega)).trans R4.out
          have P5 := hidT HT.out.1
          clear HT
          go_wp2
          generalize ((w4.setCell ⟨w.heap.size, 0, none⟩ (.int .i64 3)).setCell ⟨w.heap.size, 1, none⟩ (.int .i64 0)) = w5 at G5 R5 P5 ⊢
          obtain ⟨e0, e1, _, _⟩ := blk2 P5.out
          refine bodyPost_ret (v := kv 3 0) (by simp [results, Tryz.results25, go_sem, e0, e1]) rfl (.inl ⟨_, l', ?_, rfl, R5.out, G5.out⟩)
          simp [pOp, hj, hv0, hm.out]
        | false =>
          go_wp2_with (go_at_call 45; refine (giveUp_any b ev _ (HN.out.grown G4.out)).mono ?_; rintro e w' ⟨rfl, rfl⟩)
          exact ⟨rfl, .inr ⟨by simp [formB] at hf, rfl, G4.out⟩⟩
      · exact ⟨rfl, .inr ⟨by
          have : pNeed sRefresh l = none := by simpa using hv
          simp [pOp, hj, hv0, this], rfl, G1.out.trans g2⟩⟩
end Tx
end Go.Proofs.YtapmgbnhobpahaaGreatDoor
